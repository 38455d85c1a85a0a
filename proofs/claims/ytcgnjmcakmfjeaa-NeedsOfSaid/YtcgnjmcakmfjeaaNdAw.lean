/-
  The package's own example is true; the document's table of operations.
-/
import Derived.Test.YtcgnjmcakmfjeaaNdTab
namespace Go.Proofs.Ytcgnjmcakmfjeaa
open Go Go.Ev Go.RowKit

set_option maxRecDepth 100000 in
theorem awake_gives : gives Try.prog tab 200 60 6 [] (.bool true) = true := by kernel_rfl
theorem awake_any (w : World) : Calls Try.prog 6 #[] w fun e w' => e = .returned (.bool true) ∧ Below w.heap.size w w' :=
  run_closed mixed tab_ok (args := []) rfl rfl awake_gives w
end Go.Proofs.Ytcgnjmcakmfjeaa
