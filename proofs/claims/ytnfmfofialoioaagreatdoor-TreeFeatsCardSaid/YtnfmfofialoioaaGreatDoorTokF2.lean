/-
  Ints: of the document's own answers.
-/
import Derived.Test.YtnfmfofialoioaaGreatDoorTokF
namespace Go.Proofs.YtnfmfofialoioaaGreatDoor
open Go.RowKit T

set_option maxHeartbeats 1000000 in
theorem IsNumber_any (s : ByteArray) (w : World) (hs : s.size ≤ maxLen) :
    Calls Tryz.prog 69 #[.string s] w fun e w' => e = .returned (.bool (numL s.data.toList)) ∧ w = w' := by
  unfold maxLen at hs
  go_enter Tryz.func69, Tryz.ntmps69
  go_wp2_with fail
  go_loop [3] (fun i => ∃ k : Nat, k ≤ s.size ∧ i = .int .i64 k ∧ (s.data.toList.take k).all diU = true) (fun i => s.size - (intOf i).toNat)
  case atStart => exact ⟨0, Nat.zero_le _, rfl, rfl⟩
  case round =>
    obtain ⟨k, hk, rfl, hall⟩ := hrel
    have H := Lib.hid hall
    clear hall
    by_cases hlt : k < s.size
    · rcases hb : diB (s[k].toNat : Int) with _ | _
      · go_wp2_with (go_at_call 92; refine (digit_r_any _ _).mono ?_; rintro e w' ⟨rfl, rfl⟩)
        go_ret
        exact ⟨by rw [numL, all_of_bad k hlt hb]; simp, rfl⟩
      · go_wp2_with (go_at_call 92; refine (digit_r_any _ _).mono ?_; rintro e w' ⟨rfl, rfl⟩)
        go_round
        case rel => exact ⟨k + 1, by omega, by go_num, all_take_succ k hlt H.out hb⟩
        case measure => simp [intOf]; omega
    · have hd := Lib.hid (all_take_end k hlt H.out)
      rcases Nat.eq_zero_or_pos s.size with h0 | h0
      · have hz := toList_zero h0
        have E := Lib.hid (show numL s.data.toList = false by
          have := toList_zero h0; rw [Lib.toList_data] at this; rw [this]; rfl)
        clear h0
        go_wp2_with fail
        go_ret
        exact ⟨by rw [E.out]; rfl, rfl⟩
      · have hz := isEmpty_pos h0
        have e0 : s.data.toList.isEmpty = false := by rw [← Lib.toList_data]; exact hz
        have len : s.data.toList.length = s.size := by simp
        by_cases h18 : s.size ≤ 18
        · rcases q1 : ((s[0].toNat : Int) == 48) with _ | _
          · have E := Lib.hid (show numL s.data.toList = true by
              rw [numL, hd.out, e0, headD_eq h0, beq_b _ 48 48 rfl _ q1, len, decide_eq_true h18]; rfl)
            clear e0 len
            have q1' : ((s[0].toNat : Int) != 48) = true := by simp only [bne, q1]; rfl
            go_wp2_with fail
            go_ret
            exact ⟨by rw [E.out]; rfl, rfl⟩
          · have q1' : ((s[0].toNat : Int) != 48) = false := by simp only [bne, q1]; rfl
            rcases q2 : ((s.size : Int) == 1) with _ | _
            · have E := Lib.hid (show numL s.data.toList = false by
                have : (s.size == 1) = false := by rw [← q2, Bool.eq_iff_iff]; simp; omega
                rw [numL, hd.out, e0, headD_eq h0, beq_b _ 48 48 rfl _ q1, len, decide_eq_true h18, this]; rfl)
              clear e0 len
              go_wp2_with fail
              go_ret
              exact ⟨by rw [E.out]; rfl, rfl⟩
            · have E := Lib.hid (show numL s.data.toList = true by
                have : (s.size == 1) = true := by rw [← q2, Bool.eq_iff_iff]; simp; omega
                rw [numL, hd.out, e0, headD_eq h0, beq_b _ 48 48 rfl _ q1, len, decide_eq_true h18, this]; rfl)
              clear e0 len
              go_wp2_with fail
              go_ret
              exact ⟨by rw [E.out]; rfl, rfl⟩
        · have E := Lib.hid (show numL s.data.toList = false by
            rw [numL, len, decide_eq_false h18]; simp)
          clear e0 len
          go_wp2_with fail
          go_ret
          exact ⟨by rw [E.out]; rfl, rfl⟩

set_option maxHeartbeats 1000000 in
theorem IsInt_r_any (s : ByteArray) (w : World) (hs : s.size ≤ 1000000) :
    Calls Tryz.prog 43 #[.string s] w fun e w' => e = .returned (.bool (intL s.data.toList)) ∧ w = w' := by
  rcases Nat.eq_zero_or_pos s.size with h0 | h0
  · have hz := toList_zero h0
    have E := Lib.hid (show intL s.data.toList = numL s.data.toList by
      have := toList_zero h0; rw [Lib.toList_data] at this; rw [this]; rfl)
    have hs' : s.size ≤ maxLen := by unfold maxLen; omega
    clear h0
    go_enter Tryz.func43, Tryz.ntmps43
    go_wp2_with (go_at_call 69; refine (IsNumber_any _ _ hs').mono ?_; rintro e w' ⟨rfl, rfl⟩)
    go_ret
    exact ⟨by rw [E.out]; rfl, rfl⟩
  · have hz := isEmpty_pos h0
    have hs' : s.size ≤ maxLen := by unfold maxLen; omega
    rcases q1 : ((s[0].toNat : Int) == 126) with _ | _
    · have E := Lib.hid (show intL s.data.toList = numL s.data.toList by
        rw [intL, headD_eq h0, beq_b _ 126 126 rfl _ q1]; rfl)
      go_enter Tryz.func43, Tryz.ntmps43
      go_wp2_with (go_at_call 69; refine (IsNumber_any _ _ hs').mono ?_; rintro e w' ⟨rfl, rfl⟩)
      go_ret
      exact ⟨by rw [E.out]; rfl, rfl⟩
    · rcases q2 : (s.toList == [126, 48]) with _ | _
      · have E := Lib.hid (show intL s.data.toList = numL (List.take (s.size - 1) s.data.toList.tail) by
          have q2' := q2
          rw [Lib.toList_data] at q2'
          rw [intL, headD_eq h0, beq_b _ 126 126 rfl _ q1, q2', List.take_of_length_le (by simp), List.drop_one]; rfl)
        have q2' : (s.toList != [126, 48]) = true := by simp only [bne, q2]; rfl
        go_enter Tryz.func43, Tryz.ntmps43
        go_wp2_with (go_at_call 69; refine (IsNumber_any _ _ (by simp; unfold maxLen; omega)).mono ?_; rintro e w' ⟨rfl, rfl⟩)
        go_ret
        exact ⟨by rw [E.out]; rfl, rfl⟩
      · have E := Lib.hid (show intL s.data.toList = false by
          have q2' := q2
          rw [Lib.toList_data] at q2'
          rw [eq_of_beq q2']; decide)
        have q2' : (s.toList != [126, 48]) = false := by simp only [bne, q2]; rfl
        go_enter Tryz.func43, Tryz.ntmps43
        go_wp2_with fail
        go_ret
        exact ⟨by rw [E.out]; rfl, rfl⟩
end Go.Proofs.YtnfmfofialoioaaGreatDoor
