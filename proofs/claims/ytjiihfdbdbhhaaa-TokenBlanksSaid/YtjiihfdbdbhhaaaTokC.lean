/-
  Keys and signs: the two switches over strings.
-/
import Derived.Test.YtjiihfdbdbhhaaaTokB
namespace Go.Proofs.Ytjiihfdbdbhhaaa
open Go.RowKit T

set_option maxHeartbeats 1000000 in
theorem isSign_any (s : ByteArray) (w : World) :
    Calls Try.prog 40 #[.string s] w fun e w' => e = .returned (.bool (signL s.toList)) ∧ w = w' := by
  go_enter Try.func40, Try.ntmps40
  go_wp2
  all_goals
    go_ret
    refine ⟨?_, rfl⟩
    simp_all [signL]

set_option maxHeartbeats 1000000 in
theorem isKey_any (s : ByteArray) (w : World) :
    Calls Try.prog 39 #[.string s] w fun e w' => e = .returned (.bool (keyL s.toList)) ∧ w = w' := by
  go_enter Try.func39, Try.ntmps39
  go_wp2
  all_goals
    go_ret
    refine ⟨?_, rfl⟩
    simp_all [keyL]
end Go.Proofs.Ytjiihfdbdbhhaaa
