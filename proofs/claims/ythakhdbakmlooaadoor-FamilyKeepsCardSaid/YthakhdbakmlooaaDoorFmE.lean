/-
  The law FamilyKeeps of all relations, families and sets.
-/
import Derived.Deep.Slices
import Derived.Test.YthakhdbakmlooaaDoorFmD
namespace Go.Proofs.YthakhdbakmlooaaDoor
open Go Go.RowKit Go.Ev Go.Deep Go.ChangeShapes Go.WideShapes

theorem FamilyKeeps_any (rs : List RelV) (fs : List FamV) (ls : List (List Int)) (A B C : Option Addr) (c1 c2 c3 : Nat) (w : World) (hT : TabIn w) (n1 : rs.length ≤ maxLen) (n2 : fs.length ≤ maxLen) (ha : Rels w A rs) (hb : Fams w B fs) (hc : LLF w C ls) :
    Calls Tryd.prog 5 #[.slice A rs.length c1, .slice B fs.length c2, .slice C ls.length c3] w fun e w' => e = .returned (.bool true) ∧ Below w.heap.size w w' := by
  unfold maxLen at n1 n2
  cases h : ((fs.all famLight && decide (fs.length ≤ 50)) && ((rs.all relLean && decide (rs.length ≤ 110)) && decide (ls.length = fs.length))) with
  | false => exact FamilyKeeps_heavy rs fs ls.length A B C c1 c2 c3 w (by omega) (by omega) ha.cells hb.cells hT h
  | true =>
    obtain ⟨h1, h23⟩ := Bool.and_eq_true_iff.1 h
    obtain ⟨h2, h3⟩ := Bool.and_eq_true_iff.1 h23
    have h3 := of_decide_eq_true h3
    rw [h3]
    exact FamilyKeeps_light rs fs ls A B C c1 c2 c3 w (ha.small h2) (hb.small h1) hc h3 ha.cells hb.cells hT h1 h2

section
variable {H : Type} {enc : TypeId × Value → H} {w : World} {base : Nat} {spare : Nat → Bool} {held : Bool}
theorem slice_max {t e : TypeId} {fuel : Nat} {A : Option Addr} {l c : Nat} {x : DataW H × List MemPlace} (ht : Tryd.prog.underlying t = some (.slice e)) (h : DataW.trod enc Tryd.prog w base spare held fuel t [.slice A l c] = some x) : l ≤ maxLen := by
  rcases open_slice ht h with ⟨h0, _⟩ | ⟨a, len, cap, m, n', D, Pl, h0, _, hl, hm, _⟩
  · simp only [List.cons.injEq, and_true, Value.slice.injEq] at h0
    rw [h0.2.1]
    exact Nat.zero_le _
  · simp only [List.cons.injEq, and_true, Value.slice.injEq] at h0
    rw [h0.2.1]
    exact Nat.le_trans hl hm
end
end Go.Proofs.YthakhdbakmlooaaDoor
