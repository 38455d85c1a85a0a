/-
  Whether a number is in a list of ranges; the document's size; equal lists of integers.
-/
import Derived.Test.YtlhfbhkfmkcnjaaDoorDsC
namespace Go.Proofs.YtlhfbhkfmkcnjaaDoor
open Go.RowKit

def inP (v : Int) (p : Int × Int) : Bool := decide (p.1 ≤ v ∧ v ≤ p.2)
def hasV (d : List (Int × Int)) (v : Int) : Bool := vd 0 d && d.any (inP v)
theorem lt_cell {w : World} {p : Addr} {v : Value} (h : w.cell? p = some v) : p.block < w.heap.size := by
  by_cases h2 : p.block < w.heap.size
  · exact h2
  · have : w.heap[p.block]? = none := by simp; omega
    simp [World.cell?, this] at h
theorem has1_any (p : Int × Int) (v : Int) (nb : Nat) (w : World) (hc : w.cell? ⟨nb, 0, none⟩ = some (.int .i64 v)) : Calls Tryd.prog 57 #[.agg #[.int .i64 p.1, .int .i64 p.2], .pointer (some ⟨nb, 0, none⟩)] w fun e w' => e = .returned (.bool (inP v p)) ∧ Below w.heap.size w w' := by
  obtain ⟨a, b⟩ := p
  unfold inP
  simp only
  have B0 := Lib.hid (show ∀ o, Below w.heap.size w (w.alloc o) from fun o => (Below.refl _ _).alloc (Nat.le_refl _) _)
  have hsz : nb < w.heap.size := lt_cell (p := ⟨nb, 0, none⟩) hc
  have hc2 : ∀ o, (w.alloc o).cell? ⟨nb, 0, none⟩ = some (.int .i64 v) := fun o => ((B0.out o).cell (p := ⟨nb, 0, none⟩) hsz).trans hc
  by_cases h : a ≤ v
  · have e : decide (a ≤ v ∧ v ≤ b) = decide (v ≤ b) := decide_eq_decide.2 (by omega)
    rw [e]
    go_enter Tryd.func57, Tryd.ntmps57
    go_wp2_with fail
    go_ret
    exact ⟨rfl, B0.out _⟩
  · have e : decide (a ≤ v ∧ v ≤ b) = false := decide_eq_false (by omega)
    rw [e]
    have h2 : v < a := by omega
    clear h e
    go_enter Tryd.func57, Tryd.ntmps57
    go_wp2_with fail
    go_ret
    exact ⟨rfl, B0.out _⟩
set_option maxHeartbeats 1000000 in
theorem index_has (d : List (Int × Int)) (v : Int) (A : Option Addr) (c1 : Nat) (nb : Nat) (w : World) (ha : Pairs w A d) (hf : w.cell? ⟨nb, 0, none⟩ = some (.int .i64 v)) :
    Calls Tryd.prog 101 #[.slice A d.length c1, .func (.func 57) #[] #[.pointer (some ⟨nb, 0, none⟩)]] w fun e w' => ∃ r : Int, e = .returned (.int .i64 r) ∧ decide (0 ≤ r) = (d.any (inP v)) ∧ Below w.heap.size w w' := by
  have hlx := ha.1
  have HA := Lib.hid ha.2.2
  have hsz : nb < w.heap.size := lt_cell (p := ⟨nb, 0, none⟩) hf
  have C := Lib.hid (fun p (w1 : World) (hb : Below w.heap.size w w1) => has1_any p v nb w1 ((hb.cell (p := ⟨nb, 0, none⟩) hsz).trans hf))
  go_enter Tryd.func101, Tryd.ntmps101
  go_wp2_with fail
  go_loopw [5, 8] (fun _ i wr => ∃ k : Nat, k ≤ d.length ∧ i = .int .i64 k ∧ (∀ j (hj : j < k) (hl : j < d.length), inP v d[j] = false) ∧ Below w.heap.size w wr) (fun _ i _ => d.length - (intOf i).toNat)
  case atStart => exact ⟨0, Nat.zero_le _, rfl, fun j hj => absurd hj (Nat.not_lt_zero _), Below.refl _ _⟩
  case round =>
    obtain ⟨k, hk, rfl, hall, hbw⟩ := hrel
    have HL := Lib.hid hall
    have HBW := Lib.hid hbw
    clear hall hbw
    by_cases hlt : k < d.length
    · obtain ⟨b1, o1, rfl, hb1', g1⟩ := HA.out (by omega)
      have x1 := (HBW.out.cell (p := ⟨b1, o1 + k * 2, none⟩) hb1').trans (g1 k hlt).1
      have x2 := (HBW.out.cell (p := ⟨b1, o1 + k * 2 + 1, none⟩) hb1').trans (g1 k hlt).2
      have C2 := Lib.hid (C.out d[k] wr HBW.out)
      have z1 : (k : Int) < (d.length : Int) := by omega
      have z2 : (0 : Int) ≤ (k : Int) := by omega
      generalize hx : d[k] = x at *
      have HX := Lib.hid hx
      clear g1 HA C hx
      cases hp : inP v x with
      | false =>
        rw [hp] at C2
        go_wp2_with (go_at_call 57; refine C2.out.mono ?_; rintro e w1 ⟨rfl, hb⟩; have HB := Lib.hid (HBW.out.trans (hb.mono HBW.out.size)); clear hb)
        go_roundw
        case rel =>
          refine ⟨k + 1, by omega, by go_num, fun j hj hl => ?_, HB.out⟩
          rcases Nat.lt_or_ge j k with h | h
          · exact HL.out j h hl
          · obtain rfl : j = k := by omega
            rw [HX.out]; exact hp
        case measure => simp [intOf]; omega
      | true =>
        rw [hp] at C2
        go_wp2_with (go_at_call 57; refine C2.out.mono ?_; rintro e w1 ⟨rfl, hb⟩; have HB := Lib.hid (HBW.out.trans (hb.mono HBW.out.size)); clear hb)
        go_ret
        refine ⟨_, rfl, ?_, HB.out⟩
        rw [decide_eq_true (by omega)]
        symm
        rw [List.any_eq_true]
        exact ⟨x, by rw [← HX.out]; exact List.getElem_mem _, hp⟩
    · obtain rfl : k = d.length := by omega
      clear HA C
      go_wp2_with fail
      go_ret
      refine ⟨_, rfl, ?_, HBW.out⟩
      rw [decide_eq_false (by omega)]
      symm
      rw [List.any_eq_false]
      intro x hx
      obtain ⟨j, hj, rfl⟩ := List.getElem_of_mem hx
      rw [HL.out j hj hj]; simp
theorem contains_has (d : List (Int × Int)) (v : Int) (A : Option Addr) (c1 : Nat) (nb : Nat) (w : World) (ha : Pairs w A d) (hf : w.cell? ⟨nb, 0, none⟩ = some (.int .i64 v)) :
    Calls Tryd.prog 56 #[.slice A d.length c1, .func (.func 57) #[] #[.pointer (some ⟨nb, 0, none⟩)]] w fun e w' => e = .returned (.bool (d.any (inP v))) ∧ Below w.heap.size w w' := by
  have C := Lib.hid (index_has d v A c1 nb w ha hf)
  generalize (d.any (inP v)) = R at *
  go_enter Tryd.func56, Tryd.ntmps56
  go_wp2_with (go_at_call 101; refine C.out.mono ?_; rintro e w1 ⟨r, rfl, hr, hb⟩; have HB := Lib.hid hb; clear hb)
  go_ret
  exact ⟨by rw [← hr]; rfl, HB.out⟩
theorem Has_p_any (d : List (Int × Int)) (v : Int) (A : Option Addr) (c : Nat) (w : World) (ha : Pairs w A d) :
    Calls Tryd.prog 21 #[.slice A d.length c, .int .i64 v] w fun e w' => e = .returned (.bool (hasV d v)) ∧ Below w.heap.size w w' := by
  have b0 : Below w.heap.size w (w.alloc (.cells #[.int .i64 v] 3)) := (Below.refl _ _).alloc (Nat.le_refl _) _
  have VA := Lib.hid (Valid_p_any d A c (w.alloc (.cells #[.int .i64 v] 3)) (ha.over b0))
  have B0 := Lib.hid b0
  have CA := Lib.hid (show ∀ w1, Below (w.heap.size + 1) (w.alloc (.cells #[.int .i64 v] 3)) w1 → _ from fun w1 hb => contains_has d v A c w.heap.size w1 (ha.over (b0.trans (hb.mono (Nat.le_succ _)))) ((hb.cell (p := ⟨w.heap.size, 0, none⟩) (Nat.lt_succ_self _)).trans (by simp [go_sem])))
  unfold hasV
  cases hv : vd 0 d with
  | false =>
    rw [hv] at VA
    obtain ⟨R, hR⟩ : ∃ R, (false && d.any (inP v)) = R := ⟨_, rfl⟩
    rw [hR]
    have HR := Lib.hid hR
    clear hR hv b0 CA
    go_enter Tryd.func21, Tryd.ntmps21
    go_wp2_with (go_at_call 16; refine VA.out.mono ?_; rintro e w1 ⟨rfl, hb⟩; have HB := Lib.hid (B0.out.trans (hb.mono (by simp))); clear hb)
    go_ret
    exact ⟨by rw [← HR.out]; rfl, HB.out⟩
  | true =>
    rw [hv] at VA
    rw [Bool.true_and]
    clear hv b0
    generalize d.any (inP v) = R at *
    go_enter Tryd.func21, Tryd.ntmps21
    go_wp2_with (first | (go_at_call 16; refine VA.out.mono ?_; rintro e w1 ⟨rfl, hb⟩; have HB := Lib.hid hb; clear hb) | (go_at_call 56; refine (CA.out _ (by simpa using HB.out)).mono ?_; rintro e w2 ⟨rfl, hb2⟩; have HB2 := Lib.hid (B0.out.trans ((HB.out.mono (by simp)).trans (hb2.mono (by have := HB.out.size; simp at this ⊢; omega)))); clear hb2))
    go_ret
    exact ⟨rfl, HB2.out⟩
end Go.Proofs.YtlhfbhkfmkcnjaaDoor
