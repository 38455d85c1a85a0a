/-
  The parts of what stands in quotes, of the program.
-/
import Derived.Test.YtjiihfdbdbhhaaaTokS
namespace Go.Proofs.Ytjiihfdbdbhhaaa
open Go.RowKit T

/-- what the first part of what stands in quotes means, and its size: 0: it is wrong -/
def ptB (m : UInt8) (l : List UInt8) : UInt8 × Nat := match l with
  | [] => (0, 0)
  | [c] => if (c == 92) = true then (0, 0) else if prB (c.toNat : Int) = true then (c, 1) else (0, 0)
  | c :: d :: _ =>
    if (c == 92) = true then (if (d == m || d == 92) = true then (d, 2) else if (d == 110) = true then (10, 2) else (0, 0))
    else if prB (c.toNat : Int) = true then (c, 1) else (0, 0)
theorem ptB_le (m : UInt8) (l : List UInt8) : (ptB m l).2 ≤ 2 ∧ (ptB m l).2 ≤ l.length := by
  unfold ptB
  match l with
  | [] => simp
  | [c] => simp only []; repeat' split
           all_goals simp
  | c :: d :: r => simp only []; repeat' split
                   all_goals simp
theorem qpar_step (m c : UInt8) (r : List UInt8) (h : (c == m) = false) :
    qpar m (c :: r) = if ((ptB m (c :: r)).2 == 0) = true then none else (qpar m ((c :: r).drop (ptB m (c :: r)).2)).map (fun p => ((ptB m (c :: r)).1 :: p.1, p.2 + (ptB m (c :: r)).2)) := by
  match r with
  | [] =>
    unfold qpar ptB
    simp only [h]
    repeat' split
    all_goals first | rfl | simp_all
  | d :: r =>
    rw [qpar, ptB]
    simp only [h]
    repeat' split
    all_goals first | rfl | simp_all
theorem qpar_mark (m c : UInt8) (r : List UInt8) (h : (c == m) = true) : qpar m (c :: r) = some ([], 1) := by
  match r with
  | [] => unfold qpar; rw [if_pos h]
  | d :: r => rw [qpar, if_pos h]
theorem ptB_plain {s : ByteArray} (m : UInt8) (h0 : 0 < s.size) (q : ((s[0].toNat : Int) == 92) = false) : ptB m s.data.toList = if prB (s[0].toNat : Int) = true then (s[0], 1) else (0, 0) := by
  have e := beq_b _ 92 92 rfl _ q
  rcases Nat.lt_or_ge 1 s.size with h | h
  · rw [two_of h, ptB, e]; rfl
  · rw [one_byte (by omega) h0, ptB, e]; rfl

set_option maxHeartbeats 2000000 in
theorem readPart_any (s : ByteArray) (m : UInt8) (c : Int) (w : World) (hc : c = (m.toNat : Int)) (h0 : 0 < s.size) (hs : s.size ≤ 100000) :
    Calls Try.prog 89 #[.string s, .int .u8 c] w fun e w' => e = .returned (.tuple #[.int .u8 ((ptB m s.data.toList).1.toNat : Int), .int .i64 ((ptB m s.data.toList).2 : Int)]) ∧ w = w' := by
  have HC := Lib.hid hc
  clear hc
  rcases q1 : ((s[0].toNat : Int) == 92) with _ | _
  · have q1' : ((s[0].toNat : Int) != 92) = true := by simp only [bne, q1]; rfl
    have E0 := Lib.hid (ptB_plain m h0 q1)
    rcases q3 : prB (s[0].toNat : Int) with _ | _
    · have E := Lib.hid (show ptB m s.data.toList = (0, 0) by rw [E0.out, q3]; rfl)
      go_enter Try.func89, Try.ntmps89
      go_wp2_with (go_at_call 60; refine (isPrintable_any _ _).mono ?_; rintro e w' ⟨rfl, rfl⟩)
      go_ret2
      exact ⟨by rw [E.out]; rfl, rfl⟩
    · have E := Lib.hid (show ptB m s.data.toList = (s[0], 1) by rw [E0.out, q3]; rfl)
      go_enter Try.func89, Try.ntmps89
      go_wp2_with (go_at_call 60; refine (isPrintable_any _ _).mono ?_; rintro e w' ⟨rfl, rfl⟩)
      go_ret2
      exact ⟨by rw [E.out]; rfl, rfl⟩
  · have q1' : ((s[0].toNat : Int) != 92) = false := by simp only [bne, q1]; rfl
    have e1 := beq_b _ 92 92 rfl _ q1
    by_cases h1 : s.size = 1
    · have E := Lib.hid (show ptB m s.data.toList = (0, 0) by rw [one_byte h1 h0, ptB, e1]; rfl)
      have z : ((s.size : Int) == 1) = true := by rw [h1]; rfl
      clear h1 e1
      go_enter Try.func89, Try.ntmps89
      go_wp2_with fail
      go_ret2
      exact ⟨by rw [E.out]; rfl, rfl⟩
    · have h2 : 1 < s.size := by omega
      have z : ((s.size : Int) == 1) = false := by simp; omega
      have E0 := Lib.hid (show ptB m s.data.toList = (if (s[1] == m || s[1] == 92) = true then (s[1], 2) else if (s[1] == 110) = true then (10, 2) else (0, 0)) by rw [two_of h2, ptB, e1]; rfl)
      clear h1 e1
      rcases r1 : ((s[1].toNat : Int) == c) with _ | _
      · rcases r2 : ((s[1].toNat : Int) == 92) with _ | _
        · rcases r3 : ((s[1].toNat : Int) == 110) with _ | _
          all_goals
            have E := E0.out
            rw [beq_b _ m c HC.out.symm _ r1, beq_b _ 92 92 rfl _ r2, beq_b _ 110 110 rfl _ r3] at E
            simp only [Bool.or_self, Bool.false_eq_true, if_true, if_false] at E
            have E := Lib.hid E
            go_enter Try.func89, Try.ntmps89
            go_wp2_with fail
            go_ret2
            exact ⟨by rw [E.out]; rfl, rfl⟩
        · have E := E0.out
          rw [beq_b _ m c HC.out.symm _ r1, beq_b _ 92 92 rfl _ r2] at E
          simp only [Bool.or_true, if_true] at E
          have E := Lib.hid E
          go_enter Try.func89, Try.ntmps89
          go_wp2_with fail
          go_ret2
          exact ⟨by rw [E.out]; rfl, rfl⟩
      · have E := E0.out
        rw [beq_b _ m c HC.out.symm _ r1] at E
        simp only [Bool.true_or, if_true] at E
        have E := Lib.hid E
        go_enter Try.func89, Try.ntmps89
        go_wp2_with fail
        go_ret2
        exact ⟨by rw [E.out]; rfl, rfl⟩
end Go.Proofs.Ytjiihfdbdbhhaaa
