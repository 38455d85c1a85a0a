/-
  Which tokens are valid: of the program and of the document's own answers.
-/
import Derived.Test.YtnfmfofialoioaaGreatDoorTokF2
import Derived.Test.YtnfmfofialoioaaGreatDoorTokM3
namespace Go.Proofs.YtnfmfofialoioaaGreatDoor
open Go.RowKit T

set_option maxHeartbeats 4000000 in
theorem Valid_any (k s : ByteArray) (i : Int) (w : World) (hs : s.size ≤ 1000) :
    Calls Tryz.prog 11 #[.agg #[.string k, .string s, .int .i64 i]] w fun e w' => e = .returned (.bool (validB k.toList s)) ∧ Below w.heap.size w w' := by
  have hm : s.size ≤ maxLen := by unfold maxLen; omega
  rcases h0 : (k.toList == [118, 97, 114]) with _ | _
  rotate_left
  · have F := Lib.hid (show validB k.toList s = varB s by simp only [validB, h0]; rfl)
    go_enter Tryz.func11, Tryz.ntmps11
    go_wp2_with (go_at_call 18; refine (IsVar_any _ _ hm).mono ?_; rintro e w' ⟨rfl, rfl⟩)
    go_ret
    exact ⟨by rw [F.out]; rfl, (Below.refl _ _).alloc (Nat.le_refl _) _⟩
  rcases h1 : (k.toList == [97, 116, 111, 109]) with _ | _
  rotate_left
  · have F := Lib.hid (show validB k.toList s = meanB s 60 by simp only [validB, h0, h1]; rfl)
    go_enter Tryz.func11, Tryz.ntmps11
    go_wp2_with (go_at_call 19; refine (isMeaning_any _ _ _ hm).mono ?_; rintro e w' ⟨rfl, rfl⟩)
    go_ret
    exact ⟨by rw [F.out]; rfl, (Below.refl _ _).alloc (Nat.le_refl _) _⟩
  rcases h2 : (k.toList == [105, 110, 116]) with _ | _
  rotate_left
  · have F := Lib.hid (show validB k.toList s = intL s.data.toList by simp only [validB, h0, h1, h2]; rfl)
    go_enter Tryz.func11, Tryz.ntmps11
    go_wp2_with (go_at_call 20; refine (isInt_any _ _ hm).mono ?_; rintro e w' ⟨rfl, rfl⟩)
    go_ret
    exact ⟨by rw [F.out]; rfl, (Below.refl _ _).alloc (Nat.le_refl _) _⟩
  rcases h3 : (k.toList == [116, 101, 120, 116]) with _ | _
  rotate_left
  · have F := Lib.hid (show validB k.toList s = meanB s 200 by simp only [validB, h0, h1, h2, h3]; rfl)
    go_enter Tryz.func11, Tryz.ntmps11
    go_wp2_with (go_at_call 19; refine (isMeaning_any _ _ _ hm).mono ?_; rintro e w' ⟨rfl, rfl⟩)
    go_ret
    exact ⟨by rw [F.out]; rfl, (Below.refl _ _).alloc (Nat.le_refl _) _⟩
  rcases h4 : (k.toList == [99, 104, 97, 114]) with _ | _
  rotate_left
  · by_cases g1 : s.size = 1
    · have F := Lib.hid (show validB k.toList s = meanB s 1 by simp only [validB, h0, h1, h2, h3, h4, g1]; rfl)
      have hc := Lib.hid g1
      have h1' : s.size ≤ 1 := by omega
      have h2' : ((s.size : Int) == 1) = true := by rw [g1]; rfl
      clear g1
      go_enter Tryz.func11, Tryz.ntmps11
      go_wp2_with (go_at_call 19; refine (isMeaning_any _ _ _ hm).mono ?_; rintro e w' ⟨rfl, rfl⟩)
      go_ret
      exact ⟨by rw [F.out]; rfl, (Below.refl _ _).alloc (Nat.le_refl _) _⟩
    · have F := Lib.hid (show validB k.toList s = false by simp only [validB, h0, h1, h2, h3, h4, g1]; rfl)
      have h2' : ((s.size : Int) == 1) = false := by simp; omega
      go_enter Tryz.func11, Tryz.ntmps11
      go_wp2_with (go_at_call 19; refine (isMeaning_any _ _ _ hm).mono ?_; rintro e w' ⟨rfl, rfl⟩)
      go_ret
      exact ⟨by rw [F.out]; rfl, (Below.refl _ _).alloc (Nat.le_refl _) _⟩
  rcases h5 : (k.toList == [107, 101, 121]) with _ | _
  rotate_left
  · have F := Lib.hid (show validB k.toList s = keyL s.toList by simp only [validB, h0, h1, h2, h3, h4, h5]; rfl)
    go_enter Tryz.func11, Tryz.ntmps11
    go_wp2_with (go_at_call 21; refine (isKey_any _ _).mono ?_; rintro e w' ⟨rfl, rfl⟩)
    go_ret
    exact ⟨by rw [F.out]; rfl, (Below.refl _ _).alloc (Nat.le_refl _) _⟩
  rcases h6 : (k.toList == [115, 105, 103, 110]) with _ | _
  rotate_left
  · have F := Lib.hid (show validB k.toList s = signL s.toList by simp only [validB, h0, h1, h2, h3, h4, h5, h6]; rfl)
    go_enter Tryz.func11, Tryz.ntmps11
    go_wp2_with (go_at_call 22; refine (isSign_any _ _).mono ?_; rintro e w' ⟨rfl, rfl⟩)
    go_ret
    exact ⟨by rw [F.out]; rfl, (Below.refl _ _).alloc (Nat.le_refl _) _⟩
  have F := Lib.hid (show validB k.toList s = false by simp only [validB, h0, h1, h2, h3, h4, h5, h6]; rfl)
  go_enter Tryz.func11, Tryz.ntmps11
  go_wp2_with fail
  go_ret
  exact ⟨by rw [F.out]; rfl, (Below.refl _ _).alloc (Nat.le_refl _) _⟩

set_option maxHeartbeats 4000000 in
theorem Valid_r_any (k s : ByteArray) (i : Int) (w : World) (hs : s.size ≤ 1000) :
    Calls Tryz.prog 23 #[.agg #[.string k, .string s, .int .i64 i]] w fun e w' => e = .returned (.bool (validB k.toList s)) ∧ Below w.heap.size w w' := by
  have hm : s.size ≤ maxLen := by unfold maxLen; omega
  rcases h0 : (k.toList == [118, 97, 114]) with _ | _
  rotate_left
  · have F := Lib.hid (show validB k.toList s = varB s by simp only [validB, h0]; rfl)
    go_enter Tryz.func23, Tryz.ntmps23
    go_wp2_with (go_at_call 41; refine (IsVar_r_any _ _ hm).mono ?_; rintro e w' ⟨rfl, rfl⟩)
    go_ret
    exact ⟨by rw [F.out]; rfl, (Below.refl _ _).alloc (Nat.le_refl _) _⟩
  rcases h1 : (k.toList == [97, 116, 111, 109]) with _ | _
  rotate_left
  · have F := Lib.hid (show validB k.toList s = meanB s 60 by simp only [validB, h0, h1]; rfl)
    go_enter Tryz.func23, Tryz.ntmps23
    go_wp2_with (go_at_call 42; refine (inside_any _ _ _ hm).mono ?_; rintro e w' ⟨rfl, rfl⟩)
    go_ret
    exact ⟨by rw [F.out]; rfl, (Below.refl _ _).alloc (Nat.le_refl _) _⟩
  rcases h2 : (k.toList == [105, 110, 116]) with _ | _
  rotate_left
  · have F := Lib.hid (show validB k.toList s = intL s.data.toList by simp only [validB, h0, h1, h2]; rfl)
    go_enter Tryz.func23, Tryz.ntmps23
    go_wp2_with (go_at_call 43; refine (IsInt_r_any _ _ (by omega)).mono ?_; rintro e w' ⟨rfl, rfl⟩)
    go_ret
    exact ⟨by rw [F.out]; rfl, (Below.refl _ _).alloc (Nat.le_refl _) _⟩
  rcases h3 : (k.toList == [116, 101, 120, 116]) with _ | _
  rotate_left
  · have F := Lib.hid (show validB k.toList s = meanB s 200 by simp only [validB, h0, h1, h2, h3]; rfl)
    go_enter Tryz.func23, Tryz.ntmps23
    go_wp2_with (go_at_call 42; refine (inside_any _ _ _ hm).mono ?_; rintro e w' ⟨rfl, rfl⟩)
    go_ret
    exact ⟨by rw [F.out]; rfl, (Below.refl _ _).alloc (Nat.le_refl _) _⟩
  rcases h4 : (k.toList == [99, 104, 97, 114]) with _ | _
  rotate_left
  · by_cases g1 : s.size = 1
    · have F := Lib.hid (show validB k.toList s = meanB s 1 by simp only [validB, h0, h1, h2, h3, h4, g1]; rfl)
      have hc := Lib.hid g1
      have h1' : s.size ≤ 1 := by omega
      have h2' : ((s.size : Int) == 1) = true := by rw [g1]; rfl
      clear g1
      go_enter Tryz.func23, Tryz.ntmps23
      go_wp2_with (go_at_call 42; refine (inside_any _ _ _ hm).mono ?_; rintro e w' ⟨rfl, rfl⟩)
      go_ret
      exact ⟨by rw [F.out]; rfl, (Below.refl _ _).alloc (Nat.le_refl _) _⟩
    · have F := Lib.hid (show validB k.toList s = false by simp only [validB, h0, h1, h2, h3, h4, g1]; rfl)
      have h2' : ((s.size : Int) == 1) = false := by simp; omega
      go_enter Tryz.func23, Tryz.ntmps23
      go_wp2_with (go_at_call 42; refine (inside_any _ _ _ hm).mono ?_; rintro e w' ⟨rfl, rfl⟩)
      go_ret
      exact ⟨by rw [F.out]; rfl, (Below.refl _ _).alloc (Nat.le_refl _) _⟩
  rcases h5 : (k.toList == [107, 101, 121]) with _ | _
  rotate_left
  · have F := Lib.hid (show validB k.toList s = keyL s.toList by simp only [validB, h0, h1, h2, h3, h4, h5]; rfl)
    go_enter Tryz.func23, Tryz.ntmps23
    go_wp2_with (go_at_call 44; refine (isKey_r_any _ _ (by omega)).mono ?_; rintro e w' ⟨rfl, rfl⟩)
    go_ret
    exact ⟨by rw [F.out]; rfl, (Below.refl _ _).alloc (Nat.le_refl _) _⟩
  rcases h6 : (k.toList == [115, 105, 103, 110]) with _ | _
  rotate_left
  · have F := Lib.hid (show validB k.toList s = signL s.toList by simp only [validB, h0, h1, h2, h3, h4, h5, h6]; rfl)
    go_enter Tryz.func23, Tryz.ntmps23
    go_wp2_with (go_at_call 45; refine (isSign_r_any _ _ (by omega)).mono ?_; rintro e w' ⟨rfl, rfl⟩)
    go_ret
    exact ⟨by rw [F.out]; rfl, (Below.refl _ _).alloc (Nat.le_refl _) _⟩
  have F := Lib.hid (show validB k.toList s = false by simp only [validB, h0, h1, h2, h3, h4, h5, h6]; rfl)
  go_enter Tryz.func23, Tryz.ntmps23
  go_wp2_with fail
  go_ret
  exact ⟨by rw [F.out]; rfl, (Below.refl _ _).alloc (Nat.le_refl _) _⟩

end Go.Proofs.YtnfmfofialoioaaGreatDoor
