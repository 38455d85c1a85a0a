/-
  Variables, plain atoms, ints: of the program and of the document's own answers.
-/
import Derived.Test.YtjiihfdbdbhhaaaTokD
namespace Go.Proofs.Ytjiihfdbdbhhaaa
open Go.RowKit T

set_option maxHeartbeats 400000 in
theorem IsVar_any (s : ByteArray) (w : World) (hs : s.size ≤ maxLen) :
    Calls Try.prog 25 #[.string s] w fun e w' => e = .returned (.bool (varB s)) ∧ w = w' := by
  rcases hW : wordB s with _ | _
  · have F := Lib.hid (show varB s = false by simp [varB, hW])
    go_enter Try.func25, Try.ntmps25
    go_wp2_with (go_at_call 48; refine (isWord_any _ _ hs).mono ?_; rintro e w' ⟨rfl, rfl⟩)
    go_ret
    exact ⟨by rw [F.out]; rfl, rfl⟩
  · have hp := wordB_pos hW
    have F := Lib.hid (show varB s = upB (s[0].toNat : Int) by rw [varB, hW, hd_eq hp]; rfl)
    go_enter Try.func25, Try.ntmps25
    go_wp2_with (first | (go_at_call 48; refine (isWord_any _ _ hs).mono ?_; rintro e w' ⟨rfl, rfl⟩) | (go_at_call 49; refine (isUpper_any _ _).mono ?_; rintro e w' ⟨rfl, rfl⟩))
    go_ret
    exact ⟨by rw [F.out]; rfl, rfl⟩

set_option maxHeartbeats 400000 in
theorem IsVar_r_any (s : ByteArray) (w : World) (hs : s.size ≤ maxLen) :
    Calls Try.prog 26 #[.string s] w fun e w' => e = .returned (.bool (varB s)) ∧ w = w' := by
  rcases hW : wordB s with _ | _
  · have F := Lib.hid (show varB s = false by simp [varB, hW])
    go_enter Try.func26, Try.ntmps26
    go_wp2_with (go_at_call 50; refine (word_any _ _ hs).mono ?_; rintro e w' ⟨rfl, rfl⟩)
    go_ret
    exact ⟨by rw [F.out]; rfl, rfl⟩
  · have hp := wordB_pos hW
    have F := Lib.hid (show varB s = upB (s[0].toNat : Int) by rw [varB, hW, hd_eq hp]; rfl)
    go_enter Try.func26, Try.ntmps26
    go_wp2_with (first | (go_at_call 50; refine (word_any _ _ hs).mono ?_; rintro e w' ⟨rfl, rfl⟩) | (go_at_call 51; refine (great_r_any _ _).mono ?_; rintro e w' ⟨rfl, rfl⟩))
    go_ret
    exact ⟨by rw [F.out]; rfl, rfl⟩

set_option maxHeartbeats 400000 in
theorem IsPlain_any (s : ByteArray) (w : World) (hs : s.size ≤ maxLen) :
    Calls Try.prog 27 #[.string s] w fun e w' => e = .returned (.bool (plainB s)) ∧ w = w' := by
  rcases hW : wordB s with _ | _
  · have F := Lib.hid (show plainB s = false by simp [plainB, hW])
    go_enter Try.func27, Try.ntmps27
    go_wp2_with (go_at_call 48; refine (isWord_any _ _ hs).mono ?_; rintro e w' ⟨rfl, rfl⟩)
    go_ret
    exact ⟨by rw [F.out]; rfl, rfl⟩
  · have hp := wordB_pos hW
    rcases hL : loB (s[0].toNat : Int) with _ | _
    · have F := Lib.hid (show plainB s = false by rw [plainB, hW, ← hd_eq hp, hL]; rfl)
      go_enter Try.func27, Try.ntmps27
      go_wp2_with (first | (go_at_call 48; refine (isWord_any _ _ hs).mono ?_; rintro e w' ⟨rfl, rfl⟩) | (go_at_call 52; refine (isLower_any _ _).mono ?_; rintro e w' ⟨rfl, rfl⟩))
      go_ret
      exact ⟨by rw [F.out]; rfl, rfl⟩
    · have F := Lib.hid (show plainB s = !keyL s.toList by rw [plainB, hW, ← hd_eq hp, hL]; rfl)
      go_enter Try.func27, Try.ntmps27
      go_wp2_with (first | (go_at_call 48; refine (isWord_any _ _ hs).mono ?_; rintro e w' ⟨rfl, rfl⟩) | (go_at_call 52; refine (isLower_any _ _).mono ?_; rintro e w' ⟨rfl, rfl⟩) | (go_at_call 39; refine (isKey_any _ _).mono ?_; rintro e w' ⟨rfl, rfl⟩))
      go_ret
      exact ⟨by rw [F.out]; rfl, rfl⟩

set_option maxHeartbeats 400000 in
theorem IsPlain_r_any (s : ByteArray) (w : World) (hs : s.size ≤ maxLen) :
    Calls Try.prog 28 #[.string s] w fun e w' => e = .returned (.bool (plainB s)) ∧ w = w' := by
  rcases hW : wordB s with _ | _
  · have F := Lib.hid (show plainB s = false by simp [plainB, hW])
    go_enter Try.func28, Try.ntmps28
    go_wp2_with (go_at_call 50; refine (word_any _ _ hs).mono ?_; rintro e w' ⟨rfl, rfl⟩)
    go_ret
    exact ⟨by rw [F.out]; rfl, rfl⟩
  · have hp := wordB_pos hW
    have h60 := wordB_60 hW
    rcases hL : loB (s[0].toNat : Int) with _ | _
    · have F := Lib.hid (show plainB s = false by rw [plainB, hW, ← hd_eq hp, hL]; rfl)
      go_enter Try.func28, Try.ntmps28
      go_wp2_with (first | (go_at_call 50; refine (word_any _ _ hs).mono ?_; rintro e w' ⟨rfl, rfl⟩) | (go_at_call 53; refine (small_r_any _ _).mono ?_; rintro e w' ⟨rfl, rfl⟩))
      go_ret
      exact ⟨by rw [F.out]; rfl, rfl⟩
    · have F := Lib.hid (show plainB s = !keyL s.toList by rw [plainB, hW, ← hd_eq hp, hL]; rfl)
      go_enter Try.func28, Try.ntmps28
      go_wp2_with (first | (go_at_call 50; refine (word_any _ _ hs).mono ?_; rintro e w' ⟨rfl, rfl⟩) | (go_at_call 53; refine (small_r_any _ _).mono ?_; rintro e w' ⟨rfl, rfl⟩) | (go_at_call 43; refine (isKey_r_any _ _ (by omega)).mono ?_; rintro e w' ⟨rfl, rfl⟩))
      go_ret
      exact ⟨by rw [F.out]; rfl, rfl⟩
end Go.Proofs.Ytjiihfdbdbhhaaa
