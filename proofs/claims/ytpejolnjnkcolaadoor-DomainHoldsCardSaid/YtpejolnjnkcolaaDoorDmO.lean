/-
  A propagator, and a slice of integers, that come in as arguments.
-/
import Derived.Test.YtpejolnjnkcolaaDoorDmM
import Derived.Deep.Slices
import Derived.ChangeOld
import Derived.OpenShut
import Derived.ChangeSlices
namespace Go.Proofs.YtpejolnjnkcolaaDoor
open Go Go.RowKit Go.Deep Go.ChangeShapes Go.WideShapes

section
variable {H : Type} {enc : TypeId × Value → H} {w : World} {base : Nat} {spare : Nat → Bool} {held : Bool}
theorem wf_range {n : Int} (h : (Lit.int .i64 n).wf = true) : -9223372036854775808 ≤ n ∧ n ≤ 9223372036854775807 := by
  simp [Lit.wf, IntKind.min, IntKind.max, IntKind.signed, IntKind.bits] at h
  exact h
set_option maxRecDepth 100000 in
theorem ints_open {fuel : Nat} {cs : List Value} {x : DataW H × List MemPlace} (h : DataW.trod enc Tryd.prog w base spare held fuel 23 cs = some x) :
    ∃ (A : Option Addr) (l c : Nat) (xs : List Int), cs = [.slice A l c] ∧ xs.length = l ∧ l ≤ c ∧ IntsU w A xs := by
  rcases open_ints Tryd.underlying23 Tryd.underlying3 (by kernel_rfl) h with ⟨rfl, _⟩ | ⟨a, len, cap, zs, rfl, _, hl, hm, hz, _, hcell, hwz⟩
  · exact ⟨none, 0, 0, [], rfl, rfl, Nat.le_refl _, fun x hx => by simp at hx, fun h => by simp at h⟩
  · have hzl : len ≤ zs.length := by rw [hz]; split <;> omega
    refine ⟨some a, len, cap, zs.take len, rfl, by simp; omega, hl, fun x hx => wf_range (hwz x (List.mem_of_mem_take hx)), fun hp => ?_⟩
    have hp : 0 < len := by simp at hp; omega
    obtain ⟨b, off, rfl, hc⟩ := ints_at hcell (by omega)
    have c0 := hc 0 (by omega)
    refine ⟨b, off, rfl, ?_, fun i hi => ?_⟩
    · rcases Nat.lt_or_ge b w.heap.size with h' | h'
      · exact h'
      · simp [World.cell?, Array.getElem?_eq_none h'] at c0
    · have hi' : i < len := by simp at hi; omega
      rw [hc i (by omega)]
      simp [List.getD_eq_getElem?_getD, List.getElem?_eq_getElem (show i < zs.length by omega)]
set_option maxRecDepth 100000 in
theorem prop_open {fuel : Nat} {cs : List Value} {x : DataW H × List MemPlace} (h : DataW.trod enc Tryd.prog w base spare held fuel 37 cs = some x) :
    ∃ (s : ByteArray) (A B : Option Addr) (c1 c2 : Nat) (vs ks : List Int) (n : Int), cs = [.string s, .slice A vs.length c1, .slice B ks.length c2, .int .i64 n] ∧ ks.length ≤ c2 ∧ IntsU w A vs ∧ IntsU w B ks ∧ (-9223372036854775808 ≤ n ∧ n ≤ 9223372036854775807) := by
  obtain ⟨xs, k, _, _, hcl, hxl, hf⟩ := DataW.trod_struct Tryd.underlying37 h
  have hcl : cs.length = 4 := hcl.trans (by kernel_rfl)
  match cs, hcl with
  | [v0, v1, v2, v3], _ =>
    match xs, hxl with
    | [y0, y1, y2, y3], _ =>
      have cs1 : Tryd.prog.cellsOf 9 = 1 := by kernel_rfl
      have ci1 : Tryd.prog.cellsOf 3 = 1 := by kernel_rfl
      have cl1 : Tryd.prog.cellsOf 23 = 1 := by kernel_rfl
      have g0 := hf 0 _ rfl
      have g1 := hf 1 _ rfl
      have g2 := hf 2 _ rfl
      have g3 := hf 3 _ rfl
      change DataW.trod enc Tryd.prog w base spare held k 9 (List.take (Tryd.prog.cellsOf 9) [v0, v1, v2, v3]) = some y0 at g0
      change DataW.trod enc Tryd.prog w base spare held k 23 (List.take (Tryd.prog.cellsOf 23) [v1, v2, v3]) = some y1 at g1
      change DataW.trod enc Tryd.prog w base spare held k 23 (List.take (Tryd.prog.cellsOf 23) [v2, v3]) = some y2 at g2
      change DataW.trod enc Tryd.prog w base spare held k 3 (List.take (Tryd.prog.cellsOf 3) [v3]) = some y3 at g3
      rw [cs1] at g0
      rw [cl1] at g1 g2
      rw [ci1] at g3
      obtain ⟨s0, e0, _⟩ := DataW.trod_string Tryd.underlying9 g0
      obtain ⟨A, l1, c1, vs, e1, rfl, _, h1⟩ := ints_open g1
      obtain ⟨B, l2, c2, ks, e2, rfl, hc2, h2⟩ := ints_open g2
      obtain ⟨n, e3, _, hn⟩ := DataW.trod_int Tryd.underlying3 g3
      simp only [List.take_succ_cons, List.take_zero, List.cons.injEq, and_true] at e0 e1 e2 e3
      exact ⟨s0, A, B, c1, c2, vs, ks, n, by rw [e0, e1, e2, e3], hc2, h1, h2, wf_range hn⟩
end
end Go.Proofs.YtpejolnjnkcolaaDoor
