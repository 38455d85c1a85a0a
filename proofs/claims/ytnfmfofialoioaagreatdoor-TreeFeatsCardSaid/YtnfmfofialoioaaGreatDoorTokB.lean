/-
  Words, ints and quoted texts: loops over a string, of the program and of the document's own answers.
-/
import Derived.Test.YtnfmfofialoioaaGreatDoorTokA
import Derived.Lib.Strings
namespace Go.Proofs.YtnfmfofialoioaaGreatDoor
open Go.RowKit T

theorem isEmpty_pos {s : ByteArray} (h : 0 < s.size) : s.toList.isEmpty = false := by
  rw [Lib.toList_data]
  rw [List.isEmpty_eq_false_iff]
  intro e
  have : s.data.toList.length = 0 := by rw [e]; rfl
  simp at this
  have h2 : s.size = 0 := by show s.data.size = 0; rw [this]; rfl
  omega
theorem toList_zero {s : ByteArray} (h : s.size = 0) : s.toList = [] := by
  rw [Lib.toList_data]
  apply List.eq_nil_of_length_eq_zero
  simpa using h

set_option maxHeartbeats 400000 in
theorem isWord_any (s : ByteArray) (w : World) (hs : s.size ≤ maxLen) :
    Calls Tryz.prog 37 #[.string s] w fun e w' => e = .returned (.bool (wordB s)) ∧ w = w' := by
  unfold maxLen at hs
  rcases Nat.eq_zero_or_pos s.size with h0 | h0
  · have hz := toList_zero h0
    have F := Lib.hid (show wordB s = false by simp [wordB, h0])
    clear h0
    go_enter Tryz.func37, Tryz.ntmps37
    go_wp2
    go_ret
    exact ⟨by rw [F.out]; rfl, rfl⟩
  have hz := isEmpty_pos h0
  by_cases h60 : s.size ≤ 60
  · go_enter Tryz.func37, Tryz.ntmps37
    go_wp2
    go_loop [13] (fun i => ∃ k : Nat, k ≤ s.size ∧ i = .int .i64 k ∧ (s.data.toList.take k).all woU = true) (fun i => s.size - (intOf i).toNat)
    case atStart => exact ⟨0, Nat.zero_le _, rfl, rfl⟩
    case round =>
      obtain ⟨k, hk, rfl, hall⟩ := hrel
      have H := Lib.hid hall
      clear hall
      by_cases hlt : k < s.size
      · rcases hb : woB (s[k].toNat : Int) with _ | _
        · go_wp2_with (go_at_call 66; refine (isWordByte_any _ _).mono ?_; rintro e w' ⟨rfl, rfl⟩)
          go_ret
          exact ⟨by rw [wordB, all_of_bad k hlt hb]; simp, rfl⟩
        · go_wp2_with (go_at_call 66; refine (isWordByte_any _ _).mono ?_; rintro e w' ⟨rfl, rfl⟩)
          go_round
          case rel => exact ⟨k + 1, by omega, by go_num, all_take_succ k hlt H.out hb⟩
          case measure => simp [intOf]; omega
      · go_wp2
        go_ret
        exact ⟨by rw [wordB, all_take_end k hlt H.out]; simp [h0, h60], rfl⟩
  · have F := Lib.hid (show wordB s = false by simp [wordB, h60])
    go_enter Tryz.func37, Tryz.ntmps37
    go_wp2
    go_ret
    exact ⟨by rw [F.out]; rfl, rfl⟩
set_option maxHeartbeats 400000 in
theorem isMeaning_any (s : ByteArray) (m : Int) (w : World) (hs : s.size ≤ maxLen) :
    Calls Tryz.prog 19 #[.string s, .int .i64 m] w fun e w' => e = .returned (.bool (meanB s m)) ∧ w = w' := by
  unfold maxLen at hs
  by_cases h60 : (s.size : Int) ≤ m
  · go_enter Tryz.func19, Tryz.ntmps19
    go_wp2
    go_loop [12] (fun i => ∃ k : Nat, k ≤ s.size ∧ i = .int .i64 k ∧ (s.data.toList.take k).all meU = true) (fun i => s.size - (intOf i).toNat)
    case atStart => exact ⟨0, Nat.zero_le _, rfl, rfl⟩
    case round =>
      obtain ⟨k, hk, rfl, hall⟩ := hrel
      have H := Lib.hid hall
      clear hall
      by_cases hlt : k < s.size
      · rcases h10 : ((s[k].toNat : Int) == 10) with _ | _
        · have h10' : ((s[k].toNat : Int) != 10) = true := by simp only [bne, h10]; rfl
          rcases hb : prB (s[k].toNat : Int) with _ | _
          · have B := Lib.hid (show meU s[k] = false by simp only [meU, h10, hb]; rfl)
            go_wp2_with (go_at_call 39; refine (isPrintable_any _ _).mono ?_; rintro e w' ⟨rfl, rfl⟩)
            go_ret
            exact ⟨by rw [meanB, all_of_bad k hlt B.out]; simp, rfl⟩
          · have B := Lib.hid (show meU s[k] = true by simp only [meU, h10, hb]; rfl)
            go_wp2_with (go_at_call 39; refine (isPrintable_any _ _).mono ?_; rintro e w' ⟨rfl, rfl⟩)
            go_round
            case rel => exact ⟨k + 1, by omega, by go_num, all_take_succ k hlt H.out B.out⟩
            case measure => simp [intOf]; omega
        · have B := Lib.hid (show meU s[k] = true by simp only [meU, h10]; rfl)
          have h10' : ((s[k].toNat : Int) != 10) = false := by simp only [bne, h10]; rfl
          go_wp2
          go_round
          case rel => exact ⟨k + 1, by omega, by go_num, all_take_succ k hlt H.out B.out⟩
          case measure => simp [intOf]; omega
      · go_wp2
        go_ret
        exact ⟨by rw [meanB, all_take_end k hlt H.out]; simp [h60], rfl⟩
  · have F := Lib.hid (show meanB s m = false by simp [meanB, h60])
    go_enter Tryz.func19, Tryz.ntmps19
    go_wp2
    go_ret
    exact ⟨by rw [F.out]; rfl, rfl⟩

set_option maxHeartbeats 400000 in
theorem inside_any (s : ByteArray) (m : Int) (w : World) (hs : s.size ≤ maxLen) :
    Calls Tryz.prog 42 #[.string s, .int .i64 m] w fun e w' => e = .returned (.bool (meanB s m)) ∧ w = w' := by
  unfold maxLen at hs
  go_enter Tryz.func42, Tryz.ntmps42
  go_wp2
  go_loop [5] (fun i => ∃ k : Nat, k ≤ s.size ∧ i = .int .i64 k ∧ (s.data.toList.take k).all meU = true) (fun i => s.size - (intOf i).toNat)
  case atStart => exact ⟨0, Nat.zero_le _, rfl, rfl⟩
  case round =>
    obtain ⟨k, hk, rfl, hall⟩ := hrel
    have H := Lib.hid hall
    clear hall
    by_cases hlt : k < s.size
    · rcases hm : meU s[k] with _ | _
      · have hx : ((s[k].toNat : Int) == 10) = false ∧ ((s[k].toNat : Int) < 32 ∨ ¬ (s[k].toNat : Int) < 32 ∧ 126 < (s[k].toNat : Int)) := by
          simp only [meU, prB, Bool.or_eq_false_iff, Bool.and_eq_false_iff, decide_eq_false_iff_not] at hm
          exact ⟨hm.1, by omega⟩
        have B := Lib.hid hm
        clear hm
        obtain ⟨h10, h | ⟨h, h'⟩⟩ := hx
        all_goals
          have h10' : ((s[k].toNat : Int) != 10) = true := by simp only [bne, h10]; rfl
          go_wp2
          go_ret
          exact ⟨by rw [meanB, all_of_bad k hlt B.out]; simp, rfl⟩
      · have hx : ((s[k].toNat : Int) == 10) = true ∨ ((s[k].toNat : Int) == 10) = false ∧ (¬ (s[k].toNat : Int) < 32 ∧ ¬ 126 < (s[k].toNat : Int)) := by
          rcases h10 : ((s[k].toNat : Int) == 10) with _ | _
          · simp only [meU, prB, h10, Bool.false_or, Bool.and_eq_true, decide_eq_true_eq] at hm
            exact .inr ⟨rfl, by omega⟩
          · exact .inl rfl
        have B := Lib.hid hm
        clear hm
        rcases hx with h10 | ⟨h10, h, h'⟩
        · have h10' : ((s[k].toNat : Int) != 10) = false := by simp only [bne, h10]; rfl
          go_wp2
          go_round
          case rel => exact ⟨k + 1, by omega, by go_num, all_take_succ k hlt H.out B.out⟩
          case measure => simp [intOf]; omega
        · have h10' : ((s[k].toNat : Int) != 10) = true := by simp only [bne, h10]; rfl
          go_wp2
          go_round
          case rel => exact ⟨k + 1, by omega, by go_num, all_take_succ k hlt H.out B.out⟩
          case measure => simp [intOf]; omega
    · go_wp2
      go_ret
      exact ⟨by rw [meanB, all_take_end k hlt H.out]; simp, rfl⟩

set_option maxHeartbeats 400000 in
theorem word_any (s : ByteArray) (w : World) (hs : s.size ≤ maxLen) :
    Calls Tryz.prog 67 #[.string s] w fun e w' => e = .returned (.bool (wordB s)) ∧ w = w' := by
  unfold maxLen at hs
  go_enter Tryz.func67, Tryz.ntmps67
  go_wp2
  go_loop [3] (fun i => ∃ k : Nat, k ≤ s.size ∧ i = .int .i64 k ∧ (s.data.toList.take k).all woU = true) (fun i => s.size - (intOf i).toNat)
  case atStart => exact ⟨0, Nat.zero_le _, rfl, rfl⟩
  case round =>
    obtain ⟨k, hk, rfl, hall⟩ := hrel
    have H := Lib.hid hall
    clear hall
    by_cases hlt : k < s.size
    · rcases hb : woB (s[k].toNat : Int) with _ | _
      · go_wp2_with (go_at_call 91; refine (inner_any _ _).mono ?_; rintro e w' ⟨rfl, rfl⟩)
        go_ret
        exact ⟨by rw [wordB, all_of_bad k hlt hb]; simp, rfl⟩
      · go_wp2_with (go_at_call 91; refine (inner_any _ _).mono ?_; rintro e w' ⟨rfl, rfl⟩)
        go_round
        case rel => exact ⟨k + 1, by omega, by go_num, all_take_succ k hlt H.out hb⟩
        case measure => simp [intOf]; omega
    · rcases Nat.eq_zero_or_pos s.size with h0 | h0
      · have hz := toList_zero h0
        have h0' := Lib.hid h0
        clear h0
        go_wp2
        go_ret
        exact ⟨by simp [wordB, h0'.out], rfl⟩
      · have hz := isEmpty_pos h0
        by_cases h60 : s.size ≤ 60
        all_goals
          go_wp2
          go_ret
          exact ⟨by rw [wordB, all_take_end k hlt H.out]; simp [h0, h60]; omega, rfl⟩

end Go.Proofs.YtnfmfofialoioaaGreatDoor
