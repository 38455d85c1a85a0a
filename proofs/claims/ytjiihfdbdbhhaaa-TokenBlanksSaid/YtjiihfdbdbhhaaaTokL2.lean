/-
  Gaps: of the program: one, and all.
-/
import Derived.Test.YtjiihfdbdbhhaaaTokL
namespace Go.Proofs.Ytjiihfdbdbhhaaa
open Go.RowKit T

theorem cons_of {s : ByteArray} (h : 0 < s.size) : s.data.toList = s[0] :: s.data.toList.drop 1 := by
  have := drop1 s 0 h
  simpa using this
theorem prefix_no {l : List UInt8} (h : Lib.hasPrefix l [47, 42] = false) : nestedN l = 0 := by
  unfold nestedN
  split
  · rename_i a b r
    rw [if_neg]
    intro e
    simp only [Bool.and_eq_true, beq_iff_eq] at e
    rw [e.1, e.2] at h
    simp [Lib.hasPrefix] at h
  · rfl
theorem prefix_yes {l : List UInt8} (h : Lib.hasPrefix l [47, 42] = true) : ∃ r, l = 47 :: 42 :: r := by
  unfold Lib.hasPrefix at h
  match l, h with
  | [], h => simp at h
  | [a], h => simp at h
  | a :: b :: r, h =>
    simp at h
    exact ⟨r, by rw [h.1, h.2]⟩

set_option maxHeartbeats 1000000 in
theorem gapSize_any (s : ByteArray) (w : World) (hs : s.size ≤ 100000) (h0 : 0 < s.size) :
    Calls Try.prog 71 #[.string s] w fun e w' => e = .returned (.int .i64 (gapN s.data.toList)) ∧ w = w' := by
  have hc := cons_of h0
  have L1 := Lib.hid (lineSize_any s w hs)
  rcases q1 : blB (s[0].toNat : Int) with _ | _
  · rcases q2 : ((s[0].toNat : Int) == 37) with _ | _
    · rcases q3 : Lib.hasPrefix s.data.toList [47, 42] with _ | _
      · have F := Lib.hid (show gapN s.data.toList = 0 by
          have := prefix_no q3
          rw [hc] at this ⊢
          rw [gapN, blU, q1, beq_b _ 37 37 rfl _ q2]
          exact this)
        clear hc
        go_enter Try.func71, Try.ntmps71
        go_wp2_with (first | (go_at_call 84; refine (isBlank_any _ _).mono ?_; rintro e w' ⟨rfl, rfl⟩) | (go_at_call 86; refine (Try.strings_HasPrefix _ _ _).mono ?_; rintro e w' ⟨rfl, rfl⟩))
        go_ret
        exact ⟨by rw [F.out]; rfl, rfl⟩
      · obtain ⟨r, hr⟩ := prefix_yes q3
        have F := Lib.hid (show gapN s.data.toList = nestedN s.data.toList by
          rw [hc, gapN, blU, q1, beq_b _ 37 37 rfl _ q2]
          rfl)
        have N := Lib.hid (nestedSize_any s w hs r hr)
        clear hc hr
        go_enter Try.func71, Try.ntmps71
        go_wp2_with (first | (go_at_call 84; refine (isBlank_any _ _).mono ?_; rintro e w' ⟨rfl, rfl⟩) | (go_at_call 86; refine (Try.strings_HasPrefix _ _ _).mono ?_; rintro e w' ⟨rfl, rfl⟩))
        refine N.out.mono ?_
        rintro e w' ⟨rfl, rfl⟩
        go_wp2_with fail
        go_ret
        exact ⟨by rw [F.out]; rfl, rfl⟩
    · have F := Lib.hid (show gapN s.data.toList = lineN s.data.toList by
          rw [hc, gapN, blU, q1, beq_b _ 37 37 rfl _ q2]
          rfl)
      clear hc
      go_enter Try.func71, Try.ntmps71
      go_wp2_with (first | (go_at_call 84; refine (isBlank_any _ _).mono ?_; rintro e w' ⟨rfl, rfl⟩))
      refine L1.out.mono ?_
      rintro e w' ⟨rfl, rfl⟩
      go_wp2_with fail
      go_ret
      exact ⟨by rw [F.out]; rfl, rfl⟩
  · have F := Lib.hid (show gapN s.data.toList = 1 by
          rw [hc, gapN, blU, q1]
          rfl)
    clear hc
    go_enter Try.func71, Try.ntmps71
    go_wp2_with (first | (go_at_call 84; refine (isBlank_any _ _).mono ?_; rintro e w' ⟨rfl, rfl⟩))
    go_ret
    exact ⟨by rw [F.out]; rfl, rfl⟩

set_option maxHeartbeats 1000000 in
theorem skipGap_any (s : ByteArray) (i : Int) (k0 : Nat) (w : World) (hs : s.size ≤ 100000) (hi : i = (k0 : Int)) (hk : k0 ≤ s.size) :
    Calls Try.prog 56 #[.string s, .int .i64 i] w fun e w' => e = .returned (.int .i64 ((k0 : Int) + (skipN (s.data.toList.drop k0) : Int))) ∧ w = w' := by
  subst hi
  go_enter Try.func56, Try.ntmps56
  go_wp2_with fail
  go_loop [1] (fun i => ∃ k : Nat, k ≤ s.size ∧ i = .int .i64 k ∧ k0 + skipN (s.data.toList.drop k0) = k + skipN (s.data.toList.drop k)) (fun i => s.size - (intOf i).toNat)
  case atStart => exact ⟨k0, hk, rfl, rfl⟩
  case round =>
    obtain ⟨k, hk, rfl, hR⟩ := hrel
    have R := Lib.hid hR
    clear hR
    by_cases hlt : k < s.size
    · have G := gapSize_any (s.extract k s.size) w (by simp; omega) (by simp; omega)
      rw [Lib.extract_to_end] at G
      have G := Lib.hid G
      have hle := gapN_le (s.data.toList.drop k)
      have hl2 : (s.data.toList.drop k).length = s.size - k := by simp
      rw [hl2] at hle
      clear hl2
      generalize hg : gapN (s.data.toList.drop k) = g at *
      have HG := Lib.hid hg
      clear hg
      rcases Nat.eq_zero_or_pos g with h0 | h0
      · have z : ((g : Int) == 0) = true := by rw [h0]; rfl
        have F := Lib.hid (show (k0 : Int) + (skipN (s.data.toList.drop k0) : Int) = (k : Int) by
          have := R.out
          rw [skipN_zero (HG.out.trans h0)] at this; omega)
        clear h0
        go_wp2_with fail
        refine G.out.mono ?_
        rintro e w' ⟨rfl, rfl⟩
        go_wp2_with fail
        go_ret
        exact ⟨by rw [F.out]; rfl, rfl⟩
      · have z : ((g : Int) == 0) = false := by simp; omega
        go_wp2_with fail
        refine G.out.mono ?_
        rintro e w' ⟨rfl, rfl⟩
        go_wp2_with fail
        go_round
        case rel =>
          refine ⟨k + g, by omega, by go_num, ?_⟩
          have := skipN_step (l := s.data.toList.drop k) (by rw [HG.out]; omega)
          rw [HG.out, List.drop_drop] at this
          rw [R.out, this]; omega
        case measure => simp [intOf]; omega
    · have F := Lib.hid (show (k0 : Int) + (skipN (s.data.toList.drop k0) : Int) = (k : Int) by
        have h1 := R.out
        have h2 : s.data.toList.drop k = [] := List.drop_of_length_le (by simp; omega)
        have h3 : skipN ([] : List UInt8) = 0 := rfl
        rw [h2, h3] at h1; omega)
      go_wp2_with fail
      go_ret
      exact ⟨by rw [F.out]; rfl, rfl⟩
end Go.Proofs.Ytjiihfdbdbhhaaa
