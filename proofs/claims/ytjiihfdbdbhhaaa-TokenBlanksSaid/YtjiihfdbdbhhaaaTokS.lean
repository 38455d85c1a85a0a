/-
  The reader of chars, of the program; the parts of what stands in quotes.
-/
import Derived.Test.YtjiihfdbdbhhaaaTokP
namespace Go.Proofs.Ytjiihfdbdbhhaaa
open Go.RowKit T

/-- what the byte behind an ampersand means, and its size: 0: none -/
def chB (l : List UInt8) : UInt8 × Nat := match l with
  | [] => (0, 0)
  | [c] => if (c == 92) = true then (0, 0) else if (decide (33 ≤ (c.toNat : Int)) && decide ((c.toNat : Int) ≤ 126)) = true then (c, 1) else (0, 0)
  | c :: d :: _ =>
    if (c == 92) = true then (if (d == 110) = true then (10, 2) else if (d == 115) = true then (32, 2) else if (d == 92) = true then (92, 2) else (0, 0))
    else if (decide (33 ≤ (c.toNat : Int)) && decide ((c.toNat : Int) ≤ 126)) = true then (c, 1) else (0, 0)
theorem char_of (l : List UInt8) : charT l = if ((chB l).2 == 0) = true then none else some ⟨kChar, [(chB l).1], (chB l).2 + 1⟩ := by
  unfold charT chB
  match l with
  | [] => rfl
  | [c] => simp only []; repeat' split
           all_goals first | rfl | simp_all
  | c :: d :: r => simp only []; repeat' split
                   all_goals first | rfl | simp_all

theorem two_of {s : ByteArray} (h : 1 < s.size) : s.data.toList = s[0] :: s[1] :: s.data.toList.drop 2 := by
  have := drop2 s 0 (by omega)
  simpa using this
theorem chB_one {s : ByteArray} (h0 : 0 < s.size) (q : ((s[0].toNat : Int) == 92) = false) :
    chB s.data.toList = if (decide (33 ≤ (s[0].toNat : Int)) && decide ((s[0].toNat : Int) ≤ 126)) = true then (s[0], 1) else (0, 0) := by
  have e := beq_b _ 92 92 rfl _ q
  rcases Nat.lt_or_ge 1 s.size with h | h
  · rw [two_of h, chB, e]; rfl
  · rw [one_byte (by omega) h0, chB, e]; rfl

set_option maxHeartbeats 2000000 in
theorem readCharByte_any (s : ByteArray) (w : World) (hs : s.size ≤ 100000) :
    Calls Try.prog 90 #[.string s] w fun e w' => e = .returned (.tuple #[.int .u8 ((chB s.data.toList).1.toNat : Int), .int .i64 ((chB s.data.toList).2 : Int)]) ∧ w = w' := by
  rcases Nat.eq_zero_or_pos s.size with h0 | h0
  · have hz := toList_zero h0
    have E := Lib.hid (show chB s.data.toList = (0, 0) by rw [Lib.toList_data] at hz; rw [hz]; rfl)
    clear h0
    go_enter Try.func90, Try.ntmps90
    go_wp2_with fail
    go_ret2
    exact ⟨by rw [E.out]; rfl, rfl⟩
  have hz := isEmpty_pos h0
  rcases q1 : ((s[0].toNat : Int) == 92) with _ | _
  · have q1' : ((s[0].toNat : Int) != 92) = true := by simp only [bne, q1]; rfl
    have E0 := Lib.hid (chB_one h0 q1)
    rcases q2 : ((s[0].toNat : Int) == 32) with _ | _
    · rcases q3 : prB (s[0].toNat : Int) with _ | _
      · have E := Lib.hid (show chB s.data.toList = (0, 0) by
          rw [E0.out, if_neg]
          simp only [prB, Bool.and_eq_false_iff, decide_eq_false_iff_not] at q3
          simp
          omega)
        go_enter Try.func90, Try.ntmps90
        go_wp2_with (go_at_call 60; refine (isPrintable_any _ _).mono ?_; rintro e w' ⟨rfl, rfl⟩)
        go_ret2
        exact ⟨by rw [E.out]; rfl, rfl⟩
      · have E := Lib.hid (show chB s.data.toList = (s[0], 1) by
          rw [E0.out, if_pos]
          simp only [prB, Bool.and_eq_true, decide_eq_true_eq] at q3
          simp only [beq_eq_false_iff_ne] at q2
          simp
          omega)
        go_enter Try.func90, Try.ntmps90
        go_wp2_with (go_at_call 60; refine (isPrintable_any _ _).mono ?_; rintro e w' ⟨rfl, rfl⟩)
        go_ret2
        exact ⟨by rw [E.out]; rfl, rfl⟩
    · have E := Lib.hid (show chB s.data.toList = (0, 0) by
          rw [E0.out, if_neg]
          simp only [beq_iff_eq] at q2
          simp
          omega)
      go_enter Try.func90, Try.ntmps90
      go_wp2_with fail
      go_ret2
      exact ⟨by rw [E.out]; rfl, rfl⟩
  · have q1' : ((s[0].toNat : Int) != 92) = false := by simp only [bne, q1]; rfl
    have e1 := beq_b _ 92 92 rfl _ q1
    by_cases h1 : s.size = 1
    · have E := Lib.hid (show chB s.data.toList = (0, 0) by rw [one_byte h1 h0, chB, e1]; rfl)
      have z : ((s.size : Int) == 1) = true := by rw [h1]; rfl
      clear h1 e1
      go_enter Try.func90, Try.ntmps90
      go_wp2_with fail
      go_ret2
      exact ⟨by rw [E.out]; rfl, rfl⟩
    · have h2 : 1 < s.size := by omega
      have z : ((s.size : Int) == 1) = false := by simp; omega
      have E0 := Lib.hid (show chB s.data.toList = (if (s[1] == 110) = true then (10, 2) else if (s[1] == 115) = true then (32, 2) else if (s[1] == 92) = true then (92, 2) else (0, 0)) by rw [two_of h2, chB, e1]; rfl)
      clear h1 e1
      rcases r1 : ((s[1].toNat : Int) == 110) with _ | _
      · rcases r2 : ((s[1].toNat : Int) == 115) with _ | _
        · rcases r3 : ((s[1].toNat : Int) == 92) with _ | _
          all_goals
            have E := E0.out
            rw [beq_b _ 110 110 rfl _ r1, beq_b _ 115 115 rfl _ r2, beq_b _ 92 92 rfl _ r3] at E
            simp only [Bool.false_eq_true, if_true, if_false] at E
            have E := Lib.hid E
            go_enter Try.func90, Try.ntmps90
            go_wp2_with fail
            go_ret2
            exact ⟨by rw [E.out]; rfl, rfl⟩
        · have E := E0.out
          rw [beq_b _ 110 110 rfl _ r1, beq_b _ 115 115 rfl _ r2] at E
          simp only [Bool.false_eq_true, if_true, if_false] at E
          have E := Lib.hid E
          go_enter Try.func90, Try.ntmps90
          go_wp2_with fail
          go_ret2
          exact ⟨by rw [E.out]; rfl, rfl⟩
      · have E := E0.out
        rw [beq_b _ 110 110 rfl _ r1] at E
        simp only [if_true] at E
        have E := Lib.hid E
        go_enter Try.func90, Try.ntmps90
        go_wp2_with fail
        go_ret2
        exact ⟨by rw [E.out]; rfl, rfl⟩
end Go.Proofs.Ytjiihfdbdbhhaaa
