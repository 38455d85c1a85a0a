/-
  The tests of one byte, of the program and of the document's own answers.
-/
import Derived.Test.YtjiihfdbdbhhaaaRows
import Derived.Test.YtjiihfdbdbhhaaaTokSpec
import Derived.WalkKit
import Derived.WalkSpells
import Derived.WalkLawsBesides
import Derived.Lib.Hide
namespace Go.Proofs.Ytjiihfdbdbhhaaa
open Go.RowKit T

set_option maxHeartbeats 400000 in
theorem isUpper_any (c : Int) (w : World) :
    Calls Try.prog 49 #[.int .u8 c] w fun e w' => e = .returned (.bool (upB c)) ∧ w = w' := by
  by_cases h1 : 65 ≤ c <;> by_cases h2 : c ≤ 90
  all_goals
    go_enter Try.func49, Try.ntmps49
    go_wp2
    go_ret
    exact ⟨by simp [upB, h1, h2], rfl⟩

set_option maxHeartbeats 400000 in
theorem isLower_any (c : Int) (w : World) :
    Calls Try.prog 52 #[.int .u8 c] w fun e w' => e = .returned (.bool (loB c)) ∧ w = w' := by
  by_cases h1 : 97 ≤ c <;> by_cases h2 : c ≤ 122
  all_goals
    go_enter Try.func52, Try.ntmps52
    go_wp2
    go_ret
    exact ⟨by simp [loB, h1, h2], rfl⟩

set_option maxHeartbeats 400000 in
theorem isDigit_any (c : Int) (w : World) :
    Calls Try.prog 61 #[.int .u8 c] w fun e w' => e = .returned (.bool (diB c)) ∧ w = w' := by
  by_cases h1 : 48 ≤ c <;> by_cases h2 : c ≤ 57
  all_goals
    go_enter Try.func61, Try.ntmps61
    go_wp2
    go_ret
    exact ⟨by simp [diB, h1, h2], rfl⟩

set_option maxHeartbeats 400000 in
theorem isPrintable_any (c : Int) (w : World) :
    Calls Try.prog 60 #[.int .u8 c] w fun e w' => e = .returned (.bool (prB c)) ∧ w = w' := by
  by_cases h1 : 32 ≤ c <;> by_cases h2 : c ≤ 126
  all_goals
    go_enter Try.func60, Try.ntmps60
    go_wp2
    go_ret
    exact ⟨by simp [prB, h1, h2], rfl⟩

set_option maxHeartbeats 400000 in
theorem great_r_any (c : Int) (w : World) :
    Calls Try.prog 51 #[.int .u8 c] w fun e w' => e = .returned (.bool (upB c)) ∧ w = w' := by
  by_cases h1 : 65 ≤ c <;> by_cases h2 : c ≤ 90
  all_goals
    go_enter Try.func51, Try.ntmps51
    go_wp2
    go_ret
    exact ⟨by simp [upB, h1, h2], rfl⟩

set_option maxHeartbeats 400000 in
theorem small_r_any (c : Int) (w : World) :
    Calls Try.prog 53 #[.int .u8 c] w fun e w' => e = .returned (.bool (loB c)) ∧ w = w' := by
  by_cases h1 : 97 ≤ c <;> by_cases h2 : c ≤ 122
  all_goals
    go_enter Try.func53, Try.ntmps53
    go_wp2
    go_ret
    exact ⟨by simp [loB, h1, h2], rfl⟩

set_option maxHeartbeats 400000 in
theorem digit_r_any (c : Int) (w : World) :
    Calls Try.prog 80 #[.int .u8 c] w fun e w' => e = .returned (.bool (diB c)) ∧ w = w' := by
  by_cases h1 : 48 ≤ c <;> by_cases h2 : c ≤ 57
  all_goals
    go_enter Try.func80, Try.ntmps80
    go_wp2
    go_ret
    exact ⟨by simp [diB, h1, h2], rfl⟩


set_option maxHeartbeats 400000 in
theorem isBlank_any (c : Int) (w : World) :
    Calls Try.prog 84 #[.int .u8 c] w fun e w' => e = .returned (.bool (blB c)) ∧ w = w' := by
  have fin : ∀ b1 b2 b3 b4 : Bool, (c == 32) = b1 → (c == 9) = b2 → (c == 10) = b3 → (c == 13) = b4 → blB c = (b1 || b2 || b3 || b4) := by
    intro b1 b2 b3 b4 e1 e2 e3 e4; simp only [blB, e1, e2, e3, e4]
  rcases h1 : (c == 32) with _ | _ <;> rcases h2 : (c == 9) with _ | _ <;> rcases h3 : (c == 10) with _ | _ <;> rcases h4 : (c == 13) with _ | _
  all_goals
    first
    | (exfalso; simp only [beq_iff_eq, beq_eq_false_iff_ne] at h1 h2 h3 h4; omega)
    | (have F := Lib.hid (fin _ _ _ _ h1 h2 h3 h4)
       clear fin
       go_enter Try.func84, Try.ntmps84
       go_wp2
       go_ret
       exact ⟨by rw [F.out]; rfl, rfl⟩)

set_option maxHeartbeats 400000 in
theorem isWordByte_any (c : Int) (w : World) :
    Calls Try.prog 65 #[.int .u8 c] w fun e w' => e = .returned (.bool (woB c)) ∧ w = w' := by
  by_cases h1 : upB c = true <;> by_cases h2 : loB c = true <;> by_cases h3 : diB c = true
  all_goals
    go_enter Try.func65, Try.ntmps65
    go_wp2_with (first | (go_at_call 49; refine (isUpper_any _ _).mono ?_; rintro e w' ⟨rfl, rfl⟩) | (go_at_call 52; refine (isLower_any _ _).mono ?_; rintro e w' ⟨rfl, rfl⟩) | (go_at_call 61; refine (isDigit_any _ _).mono ?_; rintro e w' ⟨rfl, rfl⟩))
    go_ret
    exact ⟨by simp [woB, h1, h2, h3], rfl⟩

set_option maxHeartbeats 400000 in
theorem inner_any (c : Int) (w : World) :
    Calls Try.prog 66 #[.int .u8 c] w fun e w' => e = .returned (.bool (woB c)) ∧ w = w' := by
  have fin : ∀ b1 b2 b3 b4 : Bool, upB c = b1 → loB c = b2 → diB c = b3 → (c == 95) = b4 → woB c = (b2 || b1 || b3 || b4) := by
    intro b1 b2 b3 b4 e1 e2 e3 e4; simp only [woB, e1, e2, e3, e4]; cases b1 <;> cases b2 <;> rfl
  rcases h1 : upB c with _ | _ <;> rcases h2 : loB c with _ | _ <;> rcases h3 : diB c with _ | _
  all_goals
    have F := Lib.hid (fin _ _ _ _ h1 h2 h3 rfl)
    clear fin
    go_enter Try.func66, Try.ntmps66
    go_wp2_with (first | (go_at_call 53; refine (small_r_any _ _).mono ?_; rintro e w' ⟨rfl, rfl⟩) | (go_at_call 51; refine (great_r_any _ _).mono ?_; rintro e w' ⟨rfl, rfl⟩) | (go_at_call 80; refine (digit_r_any _ _).mono ?_; rintro e w' ⟨rfl, rfl⟩))
    go_ret
    exact ⟨by rw [F.out]; simp, rfl⟩

end Go.Proofs.Ytjiihfdbdbhhaaa
