/-
  The law FamilyTells of all families and lists; its arguments, read.
-/
import Derived.Test.YtgjphbkaonaneaaDoorFyD
import Derived.Test.YtgjphbkaonaneaaDoorFyE
import Derived.Test.YtgjphbkaonaneaaDoorFyF
import Derived.Deep.MidRow
import Derived.Deep.Slices
import Derived.ChangeOld
import Derived.OpenShut
import Derived.ChangeSlices
namespace Go.Proofs.YtgjphbkaonaneaaDoor
open Go Go.RowKit Go.Ev Go.Deep Go.ChangeShapes Go.WideShapes

/-- integers that lie, however many -/
def IntsF (w : World) (A : Option Addr) (xs : List Int) : Prop := (∀ x ∈ xs, -9223372036854775808 ≤ x ∧ x ≤ 9223372036854775807) ∧
  (0 < xs.length → ∃ b off, A = some ⟨b, off, none⟩ ∧ b < w.heap.size ∧ ∀ i (h : i < xs.length), w.cell? ⟨b, off + i, none⟩ = some (.int .i64 xs[i]))
theorem IntsF.small {w : World} {A : Option Addr} {xs : List Int} (h : IntsF w A xs) (hl : xs.length ≤ 1000000) : Ints w A xs := ⟨hl, h.1, h.2⟩
theorem FamilyTells_any (lo hi : List Int) (mn mx : Int) (A B : Option Addr) (c1 c2 : Nat) (lo' hi' : List Int) (mn' mx' : Int) (A' B' : Option Addr) (c1' c2' : Nat) (s : List Int) (C : Option Addr) (c3 : Nat) (w : World) (hT : TabIn w) (ha : IntsF w A lo) (hb : IntsF w B hi) (ha' : IntsF w A' lo') (hb' : IntsF w B' hi') (hs : IntsF w C s) :
    Calls Tryd.prog 4 #[.agg #[.slice A lo.length c1, .slice B hi.length c2, .int .i64 mn, .int .i64 mx], .agg #[.slice A' lo'.length c1', .slice B' hi'.length c2', .int .i64 mn', .int .i64 mx'], .slice C s.length c3] w fun e w' => e = .returned (.bool true) ∧ Below w.heap.size w w' := by
  cases hl : (lightB lo.length hi.length lo'.length hi'.length && decide (s.length ≤ 100)) with
  | false => exact FamilyTells_heavy _ _ _ _ _ mn mx A B c1 c2 mn' mx' A' B' c1' c2' C c3 w hT hl
  | true =>
    rw [Bool.and_eq_true] at hl
    obtain ⟨h1, h2⟩ := hl
    have h3 := h1
    unfold lightB at h3
    simp only [Bool.and_eq_true, decide_eq_true_eq] at h2 h3
    have ia := ha.small (by omega)
    have ib := hb.small (by omega)
    have ia' := ha'.small (by omega)
    have ib' := hb'.small (by omega)
    have is := hs.small (by omega)
    cases hV : validFB lo hi mn mx with
    | false => exact FamilyTells_bad lo hi mn mx A B c1 c2 lo' hi' mn' mx' A' B' c1' c2' s C c3 w ia ib ia' ib' is hT h1 h2 hV
    | true =>
      cases hK : okN (setN lo) (setN hi) mn mx with
      | false => exact FamilyTells_fail lo hi mn mx A B c1 c2 lo' hi' mn' mx' A' B' c1' c2' s C c3 w ia ib ia' ib' is hT h1 h2 hV hK
      | true => exact FamilyTells_ok lo hi mn mx A B c1 c2 lo' hi' mn' mx' A' B' c1' c2' s C c3 w ia ib ia' ib' is hT h1 h2 hV hK

section
variable {H : Type} {enc : TypeId × Value → H} {w : World} {base : Nat} {spare : Nat → Bool} {held : Bool}
theorem wf_range {n : Int} (h : (Lit.int .i64 n).wf = true) : -9223372036854775808 ≤ n ∧ n ≤ 9223372036854775807 := by
  simp [Lit.wf, IntKind.min, IntKind.max, IntKind.signed, IntKind.bits] at h
  exact h
set_option maxRecDepth 100000 in
theorem ints_open {fuel : Nat} {cs : List Value} {x : DataW H × List MemPlace} (h : DataW.trod enc Tryd.prog w base spare held fuel 23 cs = some x) :
    ∃ (A : Option Addr) (l c : Nat) (xs : List Int), cs = [.slice A l c] ∧ xs.length = l ∧ (A = none → c = 0) ∧ IntsF w A xs := by
  rcases open_ints Tryd.underlying23 Tryd.underlying3 (by kernel_rfl) h with ⟨rfl, _⟩ | ⟨a, len, cap, zs, rfl, _, hl, hm, hz, _, hcell, hwz⟩
  · exact ⟨none, 0, 0, [], rfl, rfl, fun _ => rfl, fun x hx => by simp at hx, fun h => by simp at h⟩
  · have hzl : len ≤ zs.length := by rw [hz]; split <;> omega
    refine ⟨some a, len, cap, zs.take len, rfl, by simp; omega, fun h => (by cases h), fun x hx => wf_range (hwz x (List.mem_of_mem_take hx)), fun hp => ?_⟩
    have hp : 0 < len := by simp at hp; omega
    obtain ⟨b, off, rfl, hc⟩ := ints_at hcell (by omega)
    have c0 := hc 0 (by omega)
    refine ⟨b, off, rfl, ?_, fun i hi => ?_⟩
    · rcases Nat.lt_or_ge b w.heap.size with h' | h'
      · exact h'
      · simp [World.cell?, Array.getElem?_eq_none h'] at c0
    · have hi' : i < len := by simp at hi; omega
      rw [hc i (by omega)]
      simp [List.getD_eq_getElem?_getD, List.getElem?_eq_getElem (show i < zs.length by omega)]
set_option maxRecDepth 100000 in
theorem fam_open {fuel : Nat} {cs : List Value} {x : DataW H × List MemPlace} (h : DataW.trod enc Tryd.prog w base spare held fuel 37 cs = some x) :
    ∃ (A : Option Addr) (c1 : Nat) (lo : List Int) (B : Option Addr) (c2 : Nat) (hi : List Int) (mn mx : Int), cs = [.slice A lo.length c1, .slice B hi.length c2, .int .i64 mn, .int .i64 mx] ∧ IntsF w A lo ∧ IntsF w B hi := by
  obtain ⟨xs, k, _, _, hcl, hxl, hf⟩ := DataW.trod_struct Tryd.underlying37 h
  have hcl : cs.length = 4 := hcl.trans (by kernel_rfl)
  match cs, hcl with
  | [v0, v1, v2, v3], _ =>
    match xs, hxl with
    | [y0, y1, y2, y3], _ =>
      have ci1 : Tryd.prog.cellsOf 3 = 1 := by kernel_rfl
      have cl1 : Tryd.prog.cellsOf 23 = 1 := by kernel_rfl
      have g0 := hf 0 _ rfl
      have g1 := hf 1 _ rfl
      have g2 := hf 2 _ rfl
      have g3 := hf 3 _ rfl
      change DataW.trod enc Tryd.prog w base spare held k 23 (List.take (Tryd.prog.cellsOf 23) [v0, v1, v2, v3]) = some y0 at g0
      change DataW.trod enc Tryd.prog w base spare held k 23 (List.take (Tryd.prog.cellsOf 23) [v1, v2, v3]) = some y1 at g1
      change DataW.trod enc Tryd.prog w base spare held k 3 (List.take (Tryd.prog.cellsOf 3) [v2, v3]) = some y2 at g2
      change DataW.trod enc Tryd.prog w base spare held k 3 (List.take (Tryd.prog.cellsOf 3) [v3]) = some y3 at g3
      rw [cl1] at g0 g1
      rw [ci1] at g2 g3
      obtain ⟨A, l1, c1, lo, e0, rfl, _, h0⟩ := ints_open g0
      obtain ⟨B, l2, c2, hi, e1, rfl, _, h1⟩ := ints_open g1
      obtain ⟨mn, e2, _, _⟩ := DataW.trod_int Tryd.underlying3 g2
      obtain ⟨mx, e3, _, _⟩ := DataW.trod_int Tryd.underlying3 g3
      simp only [List.take_succ_cons, List.take_zero, List.cons.injEq, and_true] at e0 e1 e2 e3
      exact ⟨A, c1, lo, B, c2, hi, mn, mx, by rw [e0, e1, e2, e3], h0, h1⟩
end
end Go.Proofs.YtgjphbkaonaneaaDoor
