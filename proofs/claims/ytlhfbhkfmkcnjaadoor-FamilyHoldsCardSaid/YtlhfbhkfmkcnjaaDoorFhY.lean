/-
  A relation, and a slice of slices of integers, that come in as arguments.
-/
import Derived.Test.YtlhfbhkfmkcnjaaDoorFhX
import Derived.Deep.MidRow
import Derived.Deep.Slices
import Derived.ChangeOld
import Derived.OpenShut
import Derived.ChangeSlices
namespace Go.Proofs.YtlhfbhkfmkcnjaaDoor
open Go Go.RowKit Go.Deep Go.ChangeShapes Go.WideShapes

section
variable {H : Type} {enc : TypeId × Value → H} {w : World} {base : Nat} {spare : Nat → Bool} {held : Bool}
theorem wf_range {n : Int} (h : (Lit.int .i64 n).wf = true) : -9223372036854775808 ≤ n ∧ n ≤ 9223372036854775807 := by
  simp [Lit.wf, IntKind.min, IntKind.max, IntKind.signed, IntKind.bits] at h
  exact h
set_option maxRecDepth 100000 in
theorem ints_open {fuel : Nat} {cs : List Value} {x : DataW H × List MemPlace} (h : DataW.trod enc Tryd.prog w base spare held fuel 23 cs = some x) :
    ∃ (A : Option Addr) (l c : Nat) (xs : List Int), cs = [.slice A l c] ∧ xs.length = l ∧ (A = none → c = 0) ∧ IntsF w A xs := by
  rcases open_ints Tryd.underlying23 Tryd.underlying3 (by kernel_rfl) h with ⟨rfl, _⟩ | ⟨a, len, cap, zs, rfl, _, hl, hm, hz, _, hcell, hwz⟩
  · exact ⟨none, 0, 0, [], rfl, rfl, fun _ => rfl, fun x hx => by simp at hx, fun h => by simp at h⟩
  · have hzl : len ≤ zs.length := by rw [hz]; split <;> omega
    refine ⟨some a, len, cap, zs.take len, rfl, by simp; omega, fun h => (by cases h), fun x hx => wf_range (hwz x (List.mem_of_mem_take hx)), fun hp => ?_⟩
    have hp : 0 < len := by simp at hp; omega
    obtain ⟨b, off, rfl, hc⟩ := ints_at hcell (by omega)
    have c0 := hc 0 (by omega)
    refine ⟨b, off, rfl, ?_, fun i hi => ?_⟩
    · rcases Nat.lt_or_ge b w.heap.size with h' | h'
      · exact h'
      · simp [World.cell?, Array.getElem?_eq_none h'] at c0
    · have hi' : i < len := by simp at hi; omega
      rw [hc i (by omega)]
      simp [List.getD_eq_getElem?_getD, List.getElem?_eq_getElem (show i < zs.length by omega)]
set_option maxRecDepth 100000 in
theorem lists_open {n : Nat} {cs : List Value} {x : DataW H × List MemPlace} (h : DataW.trod enc Tryd.prog w base spare held n 50 cs = some x) :
    ∃ (A : Option Addr) (len cap : Nat) (ks : List (List Int)), cs = [.slice A len cap] ∧ ks.length = len ∧ LLF w A ks := by
  rcases open_slice Tryd.underlying50 h with ⟨rfl, _⟩ | ⟨a, len, cap, m, n', D, Pl, rfl, _, hl, hm, hmm, _, hx⟩
  · exact ⟨none, 0, 0, [], rfl, rfl, fun h0 => by simp at h0⟩
  · have ce : Tryd.prog.cellsOf 23 = 1 := by kernel_rfl
    rw [ce] at hx
    have hlm : len ≤ m := by rw [hmm]; split <;> omega
    obtain ⟨q, hq⟩ := choose_lt (α := (Option Addr × Nat) × List Int) (n := len) (p := fun i q => w.cell? (a.add (i * 1)) = some (.slice q.1.1 q.2.length q.1.2) ∧ (q.1.1 = none → q.1.2 = 0) ∧ IntsF w q.1.1 q.2) (fun i hi => by
      obtain ⟨cs', h1, h2⟩ := hx i (by omega)
      obtain ⟨A, l, c, xs, rfl, rfl, hz, hI⟩ := ints_open h2
      obtain ⟨_, _, hcell⟩ := World.cells?_some h1
      have e0 := hcell 0 (by omega)
      rw [add_add] at e0
      exact ⟨((A, c), xs), e0, hz, hI⟩)
    refine ⟨some a, len, cap, (List.range len).map fun i => (q i).2, rfl, by simp, fun h0 => ?_⟩
    have hp : 0 < len := by simpa using h0
    obtain ⟨b, off, spot⟩ := a
    have hz := (hq 0 hp).1
    have hspot : spot = none := by simpa [Addr.add] using World.cell?_spot hz
    subst hspot
    have hb := cellLt hz
    rw [Addr.add_mid] at hb
    refine ⟨b, off, rfl, hb, fun i => if i < len then (q i).1.1 else some ⟨0, 0, none⟩, fun i => if i < len then (q i).1.2 else 0, fun i hi => ?_, fun j hj => ?_⟩
    · by_cases h' : i < len
      · simp only [if_pos h'] at hi ⊢
        exact (hq i h').2.1 hi
      · simp only [if_neg h']
    have hj' : j < len := by simpa using hj
    obtain ⟨c0, _, hI⟩ := hq j hj'
    rw [Addr.add_mid, Nat.mul_one] at c0
    simp only [List.getElem_map, List.getElem_range, if_pos hj']
    exact ⟨c0, hI⟩
set_option maxRecDepth 100000 in
theorem rel_open {fuel : Nat} {cs : List Value} {x : DataW H × List MemPlace} (h : DataW.trod enc Tryd.prog w base spare held fuel 49 cs = some x) :
    ∃ (s : ByteArray) (A : Option Addr) (c1 : Nat) (vs : List Int) (n : Int), cs = [.string s, .slice A vs.length c1, .int .i64 n] ∧ IntsF w A vs := by
  obtain ⟨xs, k, _, _, hcl, hxl, hf⟩ := DataW.trod_struct Tryd.underlying49 h
  have hcl : cs.length = 3 := hcl.trans (by kernel_rfl)
  match cs, hcl with
  | [v0, v1, v2], _ =>
    match xs, hxl with
    | [y0, y1, y2], _ =>
      have cs1 : Tryd.prog.cellsOf 9 = 1 := by kernel_rfl
      have ci1 : Tryd.prog.cellsOf 3 = 1 := by kernel_rfl
      have cl1 : Tryd.prog.cellsOf 23 = 1 := by kernel_rfl
      have g0 := hf 0 _ rfl
      have g1 := hf 1 _ rfl
      have g2 := hf 2 _ rfl
      change DataW.trod enc Tryd.prog w base spare held k 9 (List.take (Tryd.prog.cellsOf 9) [v0, v1, v2]) = some y0 at g0
      change DataW.trod enc Tryd.prog w base spare held k 23 (List.take (Tryd.prog.cellsOf 23) [v1, v2]) = some y1 at g1
      change DataW.trod enc Tryd.prog w base spare held k 3 (List.take (Tryd.prog.cellsOf 3) [v2]) = some y2 at g2
      rw [cs1] at g0
      rw [cl1] at g1
      rw [ci1] at g2
      obtain ⟨s0, e0, _⟩ := DataW.trod_string Tryd.underlying9 g0
      obtain ⟨A, l1, c1, vs, e1, rfl, _, h1⟩ := ints_open g1
      obtain ⟨n, e2, _, _⟩ := DataW.trod_int Tryd.underlying3 g2
      simp only [List.take_succ_cons, List.take_zero, List.cons.injEq, and_true] at e0 e1 e2
      exact ⟨s0, A, c1, vs, n, by rw [e0, e1, e2], h1⟩
end
end Go.Proofs.YtlhfbhkfmkcnjaaDoor
