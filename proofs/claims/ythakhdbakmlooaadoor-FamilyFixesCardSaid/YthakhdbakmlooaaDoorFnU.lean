/-
  The law FamilyFixes of all relations and families.
-/
import Derived.Deep.Slices
import Derived.Test.YthakhdbakmlooaaDoorFnT
namespace Go.Proofs.YthakhdbakmlooaaDoor
open Go Go.RowKit Go.Ev Go.Deep Go.ChangeShapes Go.WideShapes

theorem FamilyFixes_any (rs : List RelV) (fs : List FamV) (t : Nat) (n : Int) (A B : Option Addr) (c1 c2 : Nat) (w : World) (ht : t ≤ 255) (hT : TabIn w) (n1 : rs.length ≤ maxLen) (n2 : fs.length ≤ maxLen) (ha : Rels w A rs) (hb : Fams w B fs) :
    Calls Tryd.prog 6 #[.slice A rs.length c1, .slice B fs.length c2, .int .u8 (t : Int), .int .i64 n] w fun e w' => e = .returned (.bool true) ∧ Below w.heap.size w w' := by
  unfold maxLen at n1 n2
  cases h : ((fs.all famLight && decide (fs.length ≤ 50)) && (rs.all relLean && decide (rs.length ≤ 110))) with
  | false => exact FamilyFixes_heavy rs fs t n A B c1 c2 w (by omega) (by omega) ha.cells hb.cells hT h
  | true =>
    obtain ⟨h1, h2⟩ := Bool.and_eq_true_iff.1 h
    exact FamilyFixes_light rs fs t n A B c1 c2 w ht (ha.small h2) (hb.small h1) ha.cells hb.cells hT h1 h2
section
variable {H : Type} {enc : TypeId × Value → H} {w : World} {base : Nat} {spare : Nat → Bool} {held : Bool}
theorem slice_max {t e : TypeId} {fuel : Nat} {A : Option Addr} {l c : Nat} {x : DataW H × List MemPlace} (ht : Tryd.prog.underlying t = some (.slice e)) (h : DataW.trod enc Tryd.prog w base spare held fuel t [.slice A l c] = some x) : l ≤ maxLen := by
  rcases open_slice ht h with ⟨h0, _⟩ | ⟨a, len, cap, m, n', D, Pl, h0, _, hl, hm, _⟩
  · simp only [List.cons.injEq, and_true, Value.slice.injEq] at h0
    rw [h0.2.1]
    exact Nat.zero_le _
  · simp only [List.cons.injEq, and_true, Value.slice.injEq] at h0
    rw [h0.2.1]
    exact Nat.le_trans hl hm
end
end Go.Proofs.YthakhdbakmlooaaDoor
