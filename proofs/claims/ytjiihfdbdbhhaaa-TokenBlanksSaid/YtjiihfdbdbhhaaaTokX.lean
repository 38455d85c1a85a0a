/-
  Which reader reads at a place, of the program.
-/
import Derived.Test.YtjiihfdbdbhhaaaTokQ
import Derived.Test.YtjiihfdbdbhhaaaTokT
import Derived.Test.YtjiihfdbdbhhaaaTokV
import Derived.Test.YtjiihfdbdbhhaaaTokW
namespace Go.Proofs.Ytjiihfdbdbhhaaa
open Go.RowKit T

theorem notLetter {c : Int} (h : (upB c || loB c) = false) : upB c = false ∧ loB c = false := by simpa using h

set_option maxHeartbeats 1000000 in
theorem readerAt_word (s : ByteArray) (k : Nat) (i : Int) (w : World) (_hs : s.size ≤ 100000) (hi : i = (k : Int)) (hlt : k < s.size) (hl : (upB (s[k].toNat : Int) || loB (s[k].toNat : Int)) = true) :
    Calls Try.prog 57 #[.string s, .int .i64 i] w fun e w' => e = .returned (.func (.func 72) #[] #[]) ∧ w = w' := by
  subst hi
  rcases h1 : upB (s[k].toNat : Int) with _ | _
  · rw [h1] at hl
    have h2 : loB (s[k].toNat : Int) = true := by simpa using hl
    clear hl
    go_enter Try.func57, Try.ntmps57
    go_wp2_with (first | (go_at_call 49; refine (isUpper_any _ _).mono ?_; rintro e w' ⟨rfl, rfl⟩) | (go_at_call 52; refine (isLower_any _ _).mono ?_; rintro e w' ⟨rfl, rfl⟩))
    go_ret
    exact ⟨rfl, rfl⟩
  · clear hl
    go_enter Try.func57, Try.ntmps57
    go_wp2_with (first | (go_at_call 49; refine (isUpper_any _ _).mono ?_; rintro e w' ⟨rfl, rfl⟩) | (go_at_call 52; refine (isLower_any _ _).mono ?_; rintro e w' ⟨rfl, rfl⟩))
    go_ret
    exact ⟨rfl, rfl⟩

set_option maxHeartbeats 1000000 in
theorem readerAt_int (s : ByteArray) (k : Nat) (i : Int) (w : World) (hs : s.size ≤ 100000) (hi : i = (k : Int)) (hlt : k < s.size) (hl : (upB (s[k].toNat : Int) || loB (s[k].toNat : Int)) = false)
    (hd : diB (s[k].toNat : Int) = true ∨ (diB (s[k].toNat : Int) = false ∧ ((s[k].toNat : Int) == 126) = true ∧ ∃ h : k + 1 < s.size, diB (s[k + 1].toNat : Int) = true)) :
    Calls Try.prog 57 #[.string s, .int .i64 i] w fun e w' => e = .returned (.func (.func 73) #[] #[]) ∧ w = w' := by
  subst hi
  obtain ⟨h1, h2⟩ := notLetter hl
  clear hl
  rcases hd with h3 | ⟨h3, h4, h5, h6⟩
  all_goals
    go_enter Try.func57, Try.ntmps57
    go_wp2_with (first | (go_at_call 49; refine (isUpper_any _ _).mono ?_; rintro e w' ⟨rfl, rfl⟩) | (go_at_call 52; refine (isLower_any _ _).mono ?_; rintro e w' ⟨rfl, rfl⟩) | (go_at_call 61; refine (isDigit_any _ _).mono ?_; rintro e w' ⟨rfl, rfl⟩))
    go_ret
    exact ⟨rfl, rfl⟩

/-- neither a word nor an int begins here -/
def Other (s : ByteArray) (k : Nat) (hlt : k < s.size) : Prop :=
  (upB (s[k].toNat : Int) || loB (s[k].toNat : Int)) = false ∧ diB (s[k].toNat : Int) = false ∧
    (((s[k].toNat : Int) == 126) = false ∨ ((s[k].toNat : Int) == 126) = true ∧ (¬ k + 1 < s.size ∨ ∃ h : k + 1 < s.size, diB (s[k + 1].toNat : Int) = false))

set_option maxHeartbeats 2000000 in
theorem readerAt_quote (s : ByteArray) (k : Nat) (i : Int) (w : World) (_hs : s.size ≤ 100000) (hi : i = (k : Int)) (hlt : k < s.size) (ho : Other s k hlt) (q1 : ((s[k].toNat : Int) == 39) = true) :
    Calls Try.prog 57 #[.string s, .int .i64 i] w fun e w' => e = .returned (.func (.func 88) #[] #[.pointer (some ⟨w.heap.size + 1, 0, none⟩), .pointer (some ⟨w.heap.size, 0, none⟩)]) ∧ (w.alloc (.cells #[.string ⟨#[97, 116, 111, 109]⟩] 9)).alloc (.cells #[.int .i64 60] 3) = w' := by
  subst hi
  obtain ⟨hl, h3, h4⟩ := ho
  obtain ⟨h1, h2⟩ := notLetter hl
  clear hl
  rcases h4 with h4 | ⟨h4, _⟩
  · clear h4
    have h4 : ((s[k].toNat : Int) == 126) = false := by
      simp only [beq_iff_eq] at q1
      simp; omega
    go_enter Try.func57, Try.ntmps57
    go_wp2_with (first | (go_at_call 49; refine (isUpper_any _ _).mono ?_; rintro e w' ⟨rfl, rfl⟩) | (go_at_call 52; refine (isLower_any _ _).mono ?_; rintro e w' ⟨rfl, rfl⟩) | (go_at_call 61; refine (isDigit_any _ _).mono ?_; rintro e w' ⟨rfl, rfl⟩))
    refine (quoted_p_any _ _ _).mono ?_
    rintro e w' ⟨rfl, rfl⟩
    go_wp2_with fail
    go_ret
    exact ⟨rfl, rfl⟩
  · exfalso
    simp only [beq_iff_eq] at q1 h4
    omega

set_option maxHeartbeats 2000000 in
theorem readerAt_text (s : ByteArray) (k : Nat) (i : Int) (w : World) (_hs : s.size ≤ 100000) (hi : i = (k : Int)) (hlt : k < s.size) (ho : Other s k hlt) (q2 : ((s[k].toNat : Int) == 34) = true) :
    Calls Try.prog 57 #[.string s, .int .i64 i] w fun e w' => e = .returned (.func (.func 88) #[] #[.pointer (some ⟨w.heap.size + 1, 0, none⟩), .pointer (some ⟨w.heap.size, 0, none⟩)]) ∧ (w.alloc (.cells #[.string ⟨#[116, 101, 120, 116]⟩] 9)).alloc (.cells #[.int .i64 200] 3) = w' := by
  subst hi
  obtain ⟨hl, h3, h4⟩ := ho
  obtain ⟨h1, h2⟩ := notLetter hl
  clear hl h4
  have h4 : ((s[k].toNat : Int) == 126) = false := by
    simp only [beq_iff_eq] at q2
    simp; omega
  have q1 : ((s[k].toNat : Int) == 39) = false := by
    simp only [beq_iff_eq] at q2
    simp; omega
  go_enter Try.func57, Try.ntmps57
  go_wp2_with (first | (go_at_call 49; refine (isUpper_any _ _).mono ?_; rintro e w' ⟨rfl, rfl⟩) | (go_at_call 52; refine (isLower_any _ _).mono ?_; rintro e w' ⟨rfl, rfl⟩) | (go_at_call 61; refine (isDigit_any _ _).mono ?_; rintro e w' ⟨rfl, rfl⟩))
  refine (quoted_p_any _ _ _).mono ?_
  rintro e w' ⟨rfl, rfl⟩
  go_wp2_with fail
  go_ret
  exact ⟨rfl, rfl⟩

set_option maxHeartbeats 2000000 in
theorem readerAt_char (s : ByteArray) (k : Nat) (i : Int) (w : World) (_hs : s.size ≤ 100000) (hi : i = (k : Int)) (hlt : k < s.size) (ho : Other s k hlt) (q3 : ((s[k].toNat : Int) == 38) = true) :
    Calls Try.prog 57 #[.string s, .int .i64 i] w fun e w' => e = .returned (.func (.func 75) #[] #[]) ∧ w = w' := by
  subst hi
  obtain ⟨hl, h3, h4⟩ := ho
  obtain ⟨h1, h2⟩ := notLetter hl
  clear hl h4
  have h4 : ((s[k].toNat : Int) == 126) = false := by
    simp only [beq_iff_eq] at q3
    simp; omega
  have q1 : ((s[k].toNat : Int) == 39) = false := by
    simp only [beq_iff_eq] at q3
    simp; omega
  have q2 : ((s[k].toNat : Int) == 34) = false := by
    simp only [beq_iff_eq] at q3
    simp; omega
  go_enter Try.func57, Try.ntmps57
  go_wp2_with (first | (go_at_call 49; refine (isUpper_any _ _).mono ?_; rintro e w' ⟨rfl, rfl⟩) | (go_at_call 52; refine (isLower_any _ _).mono ?_; rintro e w' ⟨rfl, rfl⟩) | (go_at_call 61; refine (isDigit_any _ _).mono ?_; rintro e w' ⟨rfl, rfl⟩))
  go_ret
  exact ⟨rfl, rfl⟩

set_option maxHeartbeats 2000000 in
theorem readerAt_sign (s : ByteArray) (k : Nat) (i : Int) (w : World) (hs : s.size ≤ 100000) (hi : i = (k : Int)) (hlt : k < s.size) (ho : Other s k hlt) (q1 : ((s[k].toNat : Int) == 39) = false) (q2 : ((s[k].toNat : Int) == 34) = false) (q3 : ((s[k].toNat : Int) == 38) = false) :
    Calls Try.prog 57 #[.string s, .int .i64 i] w fun e w' => e = .returned (.func (.func 76) #[] #[]) ∧ w = w' := by
  subst hi
  obtain ⟨hl, h3, h4⟩ := ho
  obtain ⟨h1, h2⟩ := notLetter hl
  clear hl
  rcases h4 with h4 | ⟨h4, h5 | ⟨h5, h6⟩⟩
  all_goals
    go_enter Try.func57, Try.ntmps57
    go_wp2_with (first | (go_at_call 49; refine (isUpper_any _ _).mono ?_; rintro e w' ⟨rfl, rfl⟩) | (go_at_call 52; refine (isLower_any _ _).mono ?_; rintro e w' ⟨rfl, rfl⟩) | (go_at_call 61; refine (isDigit_any _ _).mono ?_; rintro e w' ⟨rfl, rfl⟩))
    go_ret
    exact ⟨rfl, rfl⟩
end Go.Proofs.Ytjiihfdbdbhhaaa
