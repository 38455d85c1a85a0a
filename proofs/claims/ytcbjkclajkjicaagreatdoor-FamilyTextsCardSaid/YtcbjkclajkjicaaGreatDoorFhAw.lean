/-
  Layer 7's own example runs to true, where the table of zeros lies.
-/
import Derived.Test.YtcbjkclajkjicaaGreatDoorFhTab
import Derived.Test.YtcbjkclajkjicaaGreatDoorFrE
namespace Go.Proofs.YtcbjkclajkjicaaGreatDoor
open Go Go.Ev Go.RowKit

set_option maxRecDepth 100000 in
theorem fawake_gives : givesS Tryz.prog noOpO noOrc (famS 29 3) faTab [] 400 200 0 5 [] (.bool true) = true := by kernel_rfl
theorem fawake_any (w : World) (hT : TabIn w) : Calls Tryz.prog 5 #[] w fun e w' => e = .returned (.bool true) ∧ Below w.heap.size w w' :=
  run_relS (w0 := bare w) faMixed fatab_ok (fun k fn h => by cases h) (Nat.le_refl _) (noOpO_ok _ _) (noOrc_ok _ _) (famS_ok (noOpO_ok _ _) hT) (args := []) (plain_rel (by rfl)) rfl fawake_gives
end Go.Proofs.YtcbjkclajkjicaaGreatDoor
