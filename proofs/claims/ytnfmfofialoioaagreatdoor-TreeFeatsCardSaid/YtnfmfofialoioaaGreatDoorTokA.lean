/-
  The tests of one byte, of the program and of the document's own answers.
-/
import Derived.Test.YtnfmfofialoioaaGreatDoorRows
import Derived.Test.YtnfmfofialoioaaGreatDoorTokSpec
import Derived.WalkKit
import Derived.WalkSpells
import Derived.WalkLawsBesides
import Derived.Lib.Hide
namespace Go.Proofs.YtnfmfofialoioaaGreatDoor
open Go.RowKit T

set_option maxHeartbeats 400000 in
theorem isUpper_any (c : Int) (w : World) :
    Calls Tryz.prog 38 #[.int .u8 c] w fun e w' => e = .returned (.bool (upB c)) ∧ w = w' := by
  by_cases h1 : 65 ≤ c <;> by_cases h2 : c ≤ 90
  all_goals
    go_enter Tryz.func38, Tryz.ntmps38
    go_wp2
    go_ret
    exact ⟨by simp [upB, h1, h2], rfl⟩

set_option maxHeartbeats 400000 in
theorem isLower_any (c : Int) (w : World) :
    Calls Tryz.prog 90 #[.int .u8 c] w fun e w' => e = .returned (.bool (loB c)) ∧ w = w' := by
  by_cases h1 : 97 ≤ c <;> by_cases h2 : c ≤ 122
  all_goals
    go_enter Tryz.func90, Tryz.ntmps90
    go_wp2
    go_ret
    exact ⟨by simp [loB, h1, h2], rfl⟩

set_option maxHeartbeats 400000 in
theorem isDigit_any (c : Int) (w : World) :
    Calls Tryz.prog 40 #[.int .u8 c] w fun e w' => e = .returned (.bool (diB c)) ∧ w = w' := by
  by_cases h1 : 48 ≤ c <;> by_cases h2 : c ≤ 57
  all_goals
    go_enter Tryz.func40, Tryz.ntmps40
    go_wp2
    go_ret
    exact ⟨by simp [diB, h1, h2], rfl⟩

set_option maxHeartbeats 400000 in
theorem isPrintable_any (c : Int) (w : World) :
    Calls Tryz.prog 39 #[.int .u8 c] w fun e w' => e = .returned (.bool (prB c)) ∧ w = w' := by
  by_cases h1 : 32 ≤ c <;> by_cases h2 : c ≤ 126
  all_goals
    go_enter Tryz.func39, Tryz.ntmps39
    go_wp2
    go_ret
    exact ⟨by simp [prB, h1, h2], rfl⟩

set_option maxHeartbeats 400000 in
theorem great_r_any (c : Int) (w : World) :
    Calls Tryz.prog 68 #[.int .u8 c] w fun e w' => e = .returned (.bool (upB c)) ∧ w = w' := by
  by_cases h1 : 65 ≤ c <;> by_cases h2 : c ≤ 90
  all_goals
    go_enter Tryz.func68, Tryz.ntmps68
    go_wp2
    go_ret
    exact ⟨by simp [upB, h1, h2], rfl⟩

set_option maxHeartbeats 400000 in
theorem small_r_any (c : Int) (w : World) :
    Calls Tryz.prog 110 #[.int .u8 c] w fun e w' => e = .returned (.bool (loB c)) ∧ w = w' := by
  by_cases h1 : 97 ≤ c <;> by_cases h2 : c ≤ 122
  all_goals
    go_enter Tryz.func110, Tryz.ntmps110
    go_wp2
    go_ret
    exact ⟨by simp [loB, h1, h2], rfl⟩

set_option maxHeartbeats 400000 in
theorem digit_r_any (c : Int) (w : World) :
    Calls Tryz.prog 92 #[.int .u8 c] w fun e w' => e = .returned (.bool (diB c)) ∧ w = w' := by
  by_cases h1 : 48 ≤ c <;> by_cases h2 : c ≤ 57
  all_goals
    go_enter Tryz.func92, Tryz.ntmps92
    go_wp2
    go_ret
    exact ⟨by simp [diB, h1, h2], rfl⟩


set_option maxHeartbeats 400000 in
theorem isBlank_any (c : Int) (w : World) :
    Calls Tryz.prog 111 #[.int .u8 c] w fun e w' => e = .returned (.bool (blB c)) ∧ w = w' := by
  have fin : ∀ b1 b2 b3 b4 : Bool, (c == 32) = b1 → (c == 9) = b2 → (c == 10) = b3 → (c == 13) = b4 → blB c = (b1 || b2 || b3 || b4) := by
    intro b1 b2 b3 b4 e1 e2 e3 e4; simp only [blB, e1, e2, e3, e4]
  rcases h1 : (c == 32) with _ | _ <;> rcases h2 : (c == 9) with _ | _ <;> rcases h3 : (c == 10) with _ | _ <;> rcases h4 : (c == 13) with _ | _
  all_goals
    first
    | (exfalso; simp only [beq_iff_eq, beq_eq_false_iff_ne] at h1 h2 h3 h4; omega)
    | (have F := Lib.hid (fin _ _ _ _ h1 h2 h3 h4)
       clear fin
       go_enter Tryz.func111, Tryz.ntmps111
       go_wp2
       go_ret
       exact ⟨by rw [F.out]; rfl, rfl⟩)

set_option maxHeartbeats 400000 in
theorem isWordByte_any (c : Int) (w : World) :
    Calls Tryz.prog 66 #[.int .u8 c] w fun e w' => e = .returned (.bool (woB c)) ∧ w = w' := by
  by_cases h1 : upB c = true <;> by_cases h2 : loB c = true <;> by_cases h3 : diB c = true
  all_goals
    go_enter Tryz.func66, Tryz.ntmps66
    go_wp2_with (first | (go_at_call 38; refine (isUpper_any _ _).mono ?_; rintro e w' ⟨rfl, rfl⟩) | (go_at_call 90; refine (isLower_any _ _).mono ?_; rintro e w' ⟨rfl, rfl⟩) | (go_at_call 40; refine (isDigit_any _ _).mono ?_; rintro e w' ⟨rfl, rfl⟩))
    go_ret
    exact ⟨by simp [woB, h1, h2, h3], rfl⟩

set_option maxHeartbeats 400000 in
theorem inner_any (c : Int) (w : World) :
    Calls Tryz.prog 91 #[.int .u8 c] w fun e w' => e = .returned (.bool (woB c)) ∧ w = w' := by
  have fin : ∀ b1 b2 b3 b4 : Bool, upB c = b1 → loB c = b2 → diB c = b3 → (c == 95) = b4 → woB c = (b2 || b1 || b3 || b4) := by
    intro b1 b2 b3 b4 e1 e2 e3 e4; simp only [woB, e1, e2, e3, e4]; cases b1 <;> cases b2 <;> rfl
  rcases h1 : upB c with _ | _ <;> rcases h2 : loB c with _ | _ <;> rcases h3 : diB c with _ | _
  all_goals
    have F := Lib.hid (fin _ _ _ _ h1 h2 h3 rfl)
    clear fin
    go_enter Tryz.func91, Tryz.ntmps91
    go_wp2_with (first | (go_at_call 110; refine (small_r_any _ _).mono ?_; rintro e w' ⟨rfl, rfl⟩) | (go_at_call 68; refine (great_r_any _ _).mono ?_; rintro e w' ⟨rfl, rfl⟩) | (go_at_call 92; refine (digit_r_any _ _).mono ?_; rintro e w' ⟨rfl, rfl⟩))
    go_ret
    exact ⟨by rw [F.out]; simp, rfl⟩

end Go.Proofs.YtnfmfofialoioaaGreatDoor
