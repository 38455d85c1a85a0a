/-
  Variables, plain atoms, ints: of the program and of the document's own answers.
-/
import Derived.Test.YtnfmfofialoioaaGreatDoorTokD
namespace Go.Proofs.YtnfmfofialoioaaGreatDoor
open Go.RowKit T

set_option maxHeartbeats 400000 in
theorem IsVar_any (s : ByteArray) (w : World) (hs : s.size ≤ maxLen) :
    Calls Tryz.prog 18 #[.string s] w fun e w' => e = .returned (.bool (varB s)) ∧ w = w' := by
  rcases hW : wordB s with _ | _
  · have F := Lib.hid (show varB s = false by simp [varB, hW])
    go_enter Tryz.func18, Tryz.ntmps18
    go_wp2_with (go_at_call 37; refine (isWord_any _ _ hs).mono ?_; rintro e w' ⟨rfl, rfl⟩)
    go_ret
    exact ⟨by rw [F.out]; rfl, rfl⟩
  · have hp := wordB_pos hW
    have F := Lib.hid (show varB s = upB (s[0].toNat : Int) by rw [varB, hW, hd_eq hp]; rfl)
    go_enter Tryz.func18, Tryz.ntmps18
    go_wp2_with (first | (go_at_call 37; refine (isWord_any _ _ hs).mono ?_; rintro e w' ⟨rfl, rfl⟩) | (go_at_call 38; refine (isUpper_any _ _).mono ?_; rintro e w' ⟨rfl, rfl⟩))
    go_ret
    exact ⟨by rw [F.out]; rfl, rfl⟩

set_option maxHeartbeats 400000 in
theorem IsVar_r_any (s : ByteArray) (w : World) (hs : s.size ≤ maxLen) :
    Calls Tryz.prog 41 #[.string s] w fun e w' => e = .returned (.bool (varB s)) ∧ w = w' := by
  rcases hW : wordB s with _ | _
  · have F := Lib.hid (show varB s = false by simp [varB, hW])
    go_enter Tryz.func41, Tryz.ntmps41
    go_wp2_with (go_at_call 67; refine (word_any _ _ hs).mono ?_; rintro e w' ⟨rfl, rfl⟩)
    go_ret
    exact ⟨by rw [F.out]; rfl, rfl⟩
  · have hp := wordB_pos hW
    have F := Lib.hid (show varB s = upB (s[0].toNat : Int) by rw [varB, hW, hd_eq hp]; rfl)
    go_enter Tryz.func41, Tryz.ntmps41
    go_wp2_with (first | (go_at_call 67; refine (word_any _ _ hs).mono ?_; rintro e w' ⟨rfl, rfl⟩) | (go_at_call 68; refine (great_r_any _ _).mono ?_; rintro e w' ⟨rfl, rfl⟩))
    go_ret
    exact ⟨by rw [F.out]; rfl, rfl⟩

set_option maxHeartbeats 400000 in
theorem IsPlain_any (s : ByteArray) (w : World) (hs : s.size ≤ maxLen) :
    Calls Tryz.prog 106 #[.string s] w fun e w' => e = .returned (.bool (plainB s)) ∧ w = w' := by
  rcases hW : wordB s with _ | _
  · have F := Lib.hid (show plainB s = false by simp [plainB, hW])
    go_enter Tryz.func106, Tryz.ntmps106
    go_wp2_with (go_at_call 37; refine (isWord_any _ _ hs).mono ?_; rintro e w' ⟨rfl, rfl⟩)
    go_ret
    exact ⟨by rw [F.out]; rfl, rfl⟩
  · have hp := wordB_pos hW
    rcases hL : loB (s[0].toNat : Int) with _ | _
    · have F := Lib.hid (show plainB s = false by rw [plainB, hW, ← hd_eq hp, hL]; rfl)
      go_enter Tryz.func106, Tryz.ntmps106
      go_wp2_with (first | (go_at_call 37; refine (isWord_any _ _ hs).mono ?_; rintro e w' ⟨rfl, rfl⟩) | (go_at_call 90; refine (isLower_any _ _).mono ?_; rintro e w' ⟨rfl, rfl⟩))
      go_ret
      exact ⟨by rw [F.out]; rfl, rfl⟩
    · have F := Lib.hid (show plainB s = !keyL s.toList by rw [plainB, hW, ← hd_eq hp, hL]; rfl)
      go_enter Tryz.func106, Tryz.ntmps106
      go_wp2_with (first | (go_at_call 37; refine (isWord_any _ _ hs).mono ?_; rintro e w' ⟨rfl, rfl⟩) | (go_at_call 90; refine (isLower_any _ _).mono ?_; rintro e w' ⟨rfl, rfl⟩) | (go_at_call 21; refine (isKey_any _ _).mono ?_; rintro e w' ⟨rfl, rfl⟩))
      go_ret
      exact ⟨by rw [F.out]; rfl, rfl⟩

end Go.Proofs.YtnfmfofialoioaaGreatDoor
