/-
  What the document keeps of a relation, once, of whatever kind.
-/
import Derived.Test.YthakhdbakmlooaaDoorFnC
import Derived.Test.YthakhdbakmlooaaDoorFnD
import Derived.Test.YthakhdbakmlooaaDoorFnE
import Derived.Test.YthakhdbakmlooaaDoorFnF
import Derived.Test.YthakhdbakmlooaaDoorFnG
import Derived.Test.YthakhdbakmlooaaDoorFnH
import Derived.Test.YthakhdbakmlooaaDoorFnI
import Derived.Test.YthakhdbakmlooaaDoorFnJ
namespace Go.Proofs.YthakhdbakmlooaaDoor
set_option linter.unusedVariables false
open Go Go.RowKit Go.Shelf Go.Ev

theorem keep_any (k : ByteArray) (d : Kd) (h : KF k.toList d) (vs : List Int) (N : Int) (A : Option Addr) (c1 cap g n : Nat) (F : Nat → BdV) (G : Nat → Bool) (w : World) (ha : Ints w A vs) (hrel : relB d vs n = true) (hr : DRow w g n F G) (hB : Bits F) (hAg : ∀ b o, A = some ⟨b, o, none⟩ → b ≠ g) :
    Calls Tryd.prog 64 #[.agg #[.string k, .slice A vs.length c1, .int .i64 N], .slice (some ⟨g, 0, none⟩) n cap] w fun e w' => e = .returned (.tuple #[]) ∧ DRow w' g n (kF d vs N F) (kG d vs N G) ∧ KeptBut g w w' := by
  cases d with
  | part => exact keep_part k h vs N A c1 cap g n F G w ha hrel hr hB hAg
  | apart => exact keep_apart k h vs N A c1 cap g n F G w ha hrel hr hB hAg
  | union => exact keep_union k h vs N A c1 cap g n F G w ha hrel hr hB hAg
  | meet => exact keep_meet k h vs N A c1 cap g n F G w ha hrel hr hB hAg
  | minus => exact keep_minus k h vs N A c1 cap g n F G w ha hrel hr hB hAg
  | has => exact keep_has k h vs N A c1 cap g n F G w ha hrel hr hB hAg
  | lacks => exact keep_lacks k h vs N A c1 cap g n F G w ha hrel hr hB hAg
  | size => exact keep_size k h vs N A c1 cap g n F G w ha hrel hr hB hAg
  | none =>
    obtain ⟨m, hm1, _⟩ := relV_parts hrel
    simp [varsN] at hm1
end Go.Proofs.YthakhdbakmlooaaDoor
