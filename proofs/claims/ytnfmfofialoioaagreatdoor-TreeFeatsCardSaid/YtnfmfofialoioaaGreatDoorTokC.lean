/-
  Keys and signs: the two switches over strings.
-/
import Derived.Test.YtnfmfofialoioaaGreatDoorTokB
namespace Go.Proofs.YtnfmfofialoioaaGreatDoor
open Go.RowKit T

set_option maxHeartbeats 1000000 in
theorem isSign_any (s : ByteArray) (w : World) :
    Calls Tryz.prog 22 #[.string s] w fun e w' => e = .returned (.bool (signL s.toList)) ∧ w = w' := by
  go_enter Tryz.func22, Tryz.ntmps22
  go_wp2
  all_goals
    go_ret
    refine ⟨?_, rfl⟩
    simp_all [signL]

set_option maxHeartbeats 1000000 in
theorem isKey_any (s : ByteArray) (w : World) :
    Calls Tryz.prog 21 #[.string s] w fun e w' => e = .returned (.bool (keyL s.toList)) ∧ w = w' := by
  go_enter Tryz.func21, Tryz.ntmps21
  go_wp2
  all_goals
    go_ret
    refine ⟨?_, rfl⟩
    simp_all [keyL]
end Go.Proofs.YtnfmfofialoioaaGreatDoor
