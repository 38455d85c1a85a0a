/-
  The document's set of a domain.
-/
import Derived.Test.YtlhfbhkfmkcnjaaDoorDsP
namespace Go.Proofs.YtlhfbhkfmkcnjaaDoor
open Go Go.RowKit Go.Shelf Go.Ev
/-- the numbers of a list, as a set -/
def inL (l : List Int) (v : Nat) : Bool := l.contains (v : Int)
theorem inL_snoc {l : List Int} {x : Nat} : (fun u => if u = x then true else inL l u) = inL (l ++ [(x : Int)]) := by
  funext u
  unfold inL
  rw [contains_snoc]
  by_cases h : u = x
  · subst h; simp
  · simp [h]
theorem valsV_range {d : List (Int × Int)} (hv : vd 0 d = true) : (valsV d).length ≤ 1002 ∧ ∀ x ∈ valsV d, 0 ≤ x ∧ x ≤ 1000 := by
  unfold valsV
  rw [if_pos hv]
  have h := vd_all (by omega) hv
  refine ⟨by have := @vd_sz 0 d (by omega) hv; omega, ?_⟩
  intro x hx
  unfold vals at hx
  obtain ⟨p, hp, hx⟩ := List.mem_flatMap.1 hx
  have := h p hp
  simp [run] at hx
  obtain ⟨a, ha, rfl⟩ := hx
  omega
theorem row_open {w : World} {base n : Nat} {G : Option Addr} {cap : Nat} {L : List Int} (h : w.ownsRow base 3 1 (.slice G L.length cap) n (L.map (Value.int .i64))) (hp : 0 < L.length) : ∃ g, G = some ⟨g, 0, none⟩ ∧ base ≤ g ∧ ∀ j (h : j < L.length), w.cell? ⟨g, j, none⟩ = some (.int .i64 L[j]) := by
  obtain ⟨h1, h2⟩ := h
  rcases h2 with ⟨hv, _⟩ | ⟨g', cap', cur, hv, hb, hg, hc, hm, hs, ht⟩
  · simp only [Value.slice.injEq] at hv; omega
  · cases hv
    refine ⟨g', rfl, hb, fun j hj => ?_⟩
    have : (cur.toList.take (L.length * 1))[j]? = some (.int .i64 L[j]) := by rw [ht]; simp [List.getElem?_eq_getElem hj]
    rw [List.getElem?_take] at this
    split at this
    · simp [World.cell?, hg]; simpa using this
    · cases this
theorem hr3 {L : List Int} (h : ∀ x ∈ L, 0 ≤ x ∧ x ≤ 1000) {k : Nat} (hk : k < L.length) : 0 ≤ L[k] ∧ L[k] ≤ 1000 := h _ (List.getElem_mem hk)
set_option maxRecDepth 100000 in
set_option maxHeartbeats 4000000 in
theorem To_any (d : List (Int × Int)) (A : Option Addr) (c : Nat) (w : World) (ha : Pairs w A d) (hv : vd 0 d = true) :
    Calls Tryd.prog 96 #[.slice A d.length c] w fun e w' => e = .returned (.agg (boolArr (inL (valsV d)))) ∧ Below w.heap.size w w' := by
  have VA := Lib.hid (fun w1 (h : Below w.heap.size w w1) => Values_r_any d A c w1 (ha.over h))
  obtain ⟨hl, hr⟩ := valsV_range hv
  have z69 := zA
  clear ha hv
  generalize valsV d = L at *
  have HR := Lib.hid hr
  clear hr
  go_enter Tryd.func96, Tryd.ntmps96
  go_wp2_with (go_at_call 20; refine (VA.out _ (((Below.refl _ w).alloc (Nat.le_refl _) _).alloc (by simp) _)).mono ?_; rintro e w1 ⟨G, cap, rfl, ho, hb⟩; have HO := Lib.hid ho; have HB := Lib.hid hb; clear ho hb VA)
  have BW := Lib.hid (show Below w.heap.size w w1 from (((Below.refl _ w).alloc (Nat.le_refl _) _).alloc (by simp) _).trans (HB.out.mono (by simp; omega)))
  have S0 : SetAt w1 w.heap.size (fun _ => false) := SetAt.below (heap_alloc2_old w _ _) HB.out (by simp; omega)
  have S1 : SetAt w1 (w.heap.size + 1) (fun _ => false) := SetAt.below (heap_alloc2_new w _ _) HB.out (by simp)
  have HC := Lib.hid (show 0 < L.length → ∃ g, G = some ⟨g, 0, none⟩ ∧ w.heap.size + 2 ≤ g ∧ ∀ j (h : j < L.length), w1.cell? ⟨g, j, none⟩ = some (.int .i64 L[j]) from fun hp => by
    obtain ⟨g, e, hg, hc⟩ := row_open HO.out hp
    rw [World.size_alloc, World.size_alloc] at hg
    exact ⟨g, e, by omega, hc⟩)
  have HS := Lib.hid (And.intro S0 S1)
  clear S0 S1 HB HO
  go_loopw [5] (fun i wr => ∃ (k : Nat), k ≤ L.length ∧ i = .int .i64 k ∧ SetAt wr w.heap.size (fun _ => false) ∧ SetAt wr (w.heap.size + 1) (inL (L.take k)) ∧ (∀ g, w.heap.size + 1 < g → wr.heap[g]? = w1.heap[g]?) ∧ Below w.heap.size w wr) (fun i _ => L.length - (intOf i).toNat)
  case atStart => exact ⟨0, Nat.zero_le _, rfl, HS.out.1, HS.out.2, fun _ _ => rfl, BW.out⟩
  case round =>
    obtain ⟨k, hk, rfl, s0, s1, hg, hb⟩ := hrel
    by_cases hlt : k < L.length
    · obtain ⟨g, rfl, hg2, hc⟩ := HC.out (by omega)
      have hx := hr3 HR.out hlt
      have TK := Lib.hid (show L.take (k + 1) = L.take k ++ [L[k]] from List.take_succ_eq_append_getElem hlt)
      have x0 : wr.cell? ⟨g, k, none⟩ = some (.int .i64 L[k]) := by rw [← hc k hlt]; simp only [World.cell?, hg g (by omega)]
      clear hc
      generalize L[k] = x at *
      obtain ⟨v, rfl⟩ : ∃ v : Nat, x = v := ⟨x.toNat, by omega⟩
      have x1 := s1.cell (v := v) (by omega)
      have x2 := s1.free v
      have z1 : (k : Int) < (L.length : Int) := by omega
      have z2 : (0 : Int) ≤ (k : Int) := by omega
      have z3 : (v : Int) < 1001 := by omega
      have z4 : (0 : Int) ≤ (v : Int) := by omega
      have HH := Lib.hid (And.intro s0 (And.intro s1 (And.intro hg hb)))
      clear s0 s1 hg hb HC HR HS
      go_wp2_with fail
      go_roundw
      case rel =>
        obtain ⟨s0, s1, hg, hb⟩ := HH.out
        refine ⟨k + 1, by omega, by go_num, s0.other (by omega), by rw [TK.out, ← inL_snoc]; exact s1.put (by omega) true, fun g' hg' => (Below.heap_setCell _ _ _ _ (by show g' ≠ w.heap.size + 1; omega)).trans (hg g' hg'), hb.setCell (p := ⟨w.heap.size + 1, v, none⟩) (by simp) _⟩
      case measure => simp [intOf]; omega
    · obtain rfl : k = L.length := by omega
      rw [List.take_of_length_le (Nat.le_refl _)] at s1
      have z1 : ¬ (L.length : Int) < (L.length : Int) := by omega
      clear HC HR HS hg
      have HH := Lib.hid (And.intro s0 (And.intro s1 hb))
      have HB := Lib.hid hb
      clear hb
      repeat (first | (refine wp_load_set (Operand.tmp 3) s1 rfl rfl ?_) | (refine wp_store_set (Operand.tmp 2) (Operand.tmp 19) (inL L) s0 rfl rfl rfl ?_) | go_step)
      exact bodyPost_ret (v := .agg (boolArr (inL L))) (results_set rfl _ _ w.heap.size _ rfl (s0.stored _)) rfl ⟨rfl, Below.setRow HB.out _ _ (Nat.le_refl _)⟩
end Go.Proofs.YtlhfbhkfmkcnjaaDoor
