/-
  Gaps: of the program.
-/
import Derived.Test.YtjiihfdbdbhhaaaTokK
import Derived.Test.YtjiihfdbdbhhaaaTokR
namespace Go.Proofs.Ytjiihfdbdbhhaaa
open Go.RowKit T

theorem line_index (l : List UInt8) : (Lib.indexByte l 10 = -1 → lineN l = l.length) ∧ (0 ≤ Lib.indexByte l 10 → (lineN l : Int) = Lib.indexByte l 10 + 1) := by
  induction l with
  | nil => exact ⟨fun _ => rfl, fun h => absurd h (by simp [Lib.indexByte])⟩
  | cons b l ih =>
    have hge := Lib.indexByte_ge l 10
    unfold Lib.indexByte lineN
    rcases hb : (b == 10) with _ | _
    · simp only [Bool.false_eq_true, if_false]
      by_cases h : Lib.indexByte l 10 = -1
      · simp [h, ih.1 h]
      · have := ih.2 (by omega)
        simp [h]
        omega
    · simp
theorem drop2 (s : ByteArray) (k : Nat) (h : k + 1 < s.size) : s.data.toList.drop k = s[k] :: s[k + 1] :: s.data.toList.drop (k + 2) := by
  have h1 : k < s.data.toList.length := by simp; omega
  have h2 : k + 1 < s.data.toList.length := by simp; omega
  rw [List.drop_eq_getElem_cons h1, List.drop_eq_getElem_cons h2]
  rfl
theorem ext2 (s : ByteArray) (k : Nat) (h : k + 1 < s.size) : (s.extract k (k + 2)).toList = [s[k], s[k + 1]] := by
  rw [Lib.toList_data]
  simp only [ByteArray.data_extract, Array.toList_extract, List.extract_eq_take_drop]
  rw [drop2 s k h]
  simp
theorem drop1 (s : ByteArray) (k : Nat) (h : k < s.size) : s.data.toList.drop k = s[k] :: s.data.toList.drop (k + 1) := by
  have h1 : k < s.data.toList.length := by simp; omega
  rw [List.drop_eq_getElem_cons h1]
  rfl
theorem beq2 (a b x y : UInt8) : ([a, b] == [x, y]) = (a == x && b == y) := by
  show ((a == x) && ((b == y) && true)) = _
  simp

set_option maxHeartbeats 400000 in
theorem lineSize_any (s : ByteArray) (w : World) (hs : s.size ≤ 100000) :
    Calls Try.prog 85 #[.string s] w fun e w' => e = .returned (.int .i64 (lineN s.data.toList)) ∧ w = w' := by
  have hge := Lib.indexByte_ge s.data.toList 10
  have H := line_index s.data.toList
  by_cases h : Lib.indexByte s.data.toList 10 = -1
  · have F := Lib.hid (show (lineN s.data.toList : Int) = (s.size : Int) by rw [H.1 h]; simp)
    have h' : Lib.indexByte s.data.toList 10 < 0 := by omega
    clear H h
    go_enter Try.func85, Try.ntmps85
    go_wp2_with (go_at_call 95; refine (Try.strings_IndexByte _ _ _).mono ?_; rintro e w' ⟨rfl, rfl⟩)
    go_ret
    exact ⟨by rw [F.out]; rfl, rfl⟩
  · have F := Lib.hid (H.2 (by omega))
    have h' : 0 ≤ Lib.indexByte s.data.toList 10 := by omega
    have hle := lineN_le s.data.toList
    have h2 : Lib.indexByte s.data.toList 10 ≤ 100000 := by
      have := F.out
      simp at hle; omega
    clear H h hle
    go_enter Try.func85, Try.ntmps85
    go_wp2_with (go_at_call 95; refine (Try.strings_IndexByte _ _ _).mono ?_; rintro e w' ⟨rfl, rfl⟩)
    go_ret
    exact ⟨by rw [F.out]; rfl, rfl⟩

def nestAt (d i : Nat) (l : List UInt8) : Nat := match nestN d (l.drop i) with | some n => i + n | none => 0
theorem nestAt_open {d i : Nat} {l r : List UInt8} {a b : UInt8} (hl : l.drop i = a :: b :: r) (h : (a == 47 && b == 42) = true) (hr : l.drop (i + 2) = r) : nestAt d i l = nestAt (d + 1) (i + 2) l := by
  unfold nestAt
  rw [hl, hr, nestN, if_pos h]
  rcases nestN (d + 1) r with _ | n
  · rfl
  · simp only [Option.map_some]; omega
theorem nestAt_shut {d i : Nat} {l r : List UInt8} {a b : UInt8} (hl : l.drop i = a :: b :: r) (h : (a == 42 && b == 47) = true) (hr : l.drop (i + 2) = r) (hd : 2 ≤ d) : nestAt d i l = nestAt (d - 1) (i + 2) l := by
  have h0 : (a == 47 && b == 42) = false := by
    simp only [Bool.and_eq_true, beq_iff_eq] at h
    rw [h.1]; rfl
  unfold nestAt
  rw [hl, hr, nestN, if_neg (by rw [h0]; decide), if_pos h, if_neg (by omega)]
  rcases nestN (d - 1) r with _ | n
  · rfl
  · simp only [Option.map_some]; omega
theorem nestAt_end {i : Nat} {l r : List UInt8} {a b : UInt8} (hl : l.drop i = a :: b :: r) (h : (a == 42 && b == 47) = true) : nestAt 1 i l = i + 2 := by
  have h0 : (a == 47 && b == 42) = false := by
    simp only [Bool.and_eq_true, beq_iff_eq] at h
    rw [h.1]; rfl
  unfold nestAt
  rw [hl, nestN, if_neg (by rw [h0]; decide), if_pos h, if_pos (Nat.le_refl _)]
theorem nestAt_more {d i : Nat} {l r : List UInt8} {a b : UInt8} (hl : l.drop i = a :: b :: r) (h : (a == 47 && b == 42) = false) (h' : (a == 42 && b == 47) = false) (hr : l.drop (i + 1) = b :: r) : nestAt d i l = nestAt d (i + 1) l := by
  unfold nestAt
  rw [hl, hr, nestN, if_neg (by rw [h]; decide), if_neg (by rw [h']; decide)]
  rcases nestN d (b :: r) with _ | n
  · rfl
  · simp only [Option.map_some]; omega
theorem nestAt_none {d i : Nat} {l : List UInt8} (h : l.length ≤ i + 1) : nestAt d i l = 0 := by
  unfold nestAt
  rcases hd : l.drop i with _ | ⟨a, _ | ⟨b, r⟩⟩
  · rfl
  · rfl
  · have := congrArg List.length hd
    simp at this; omega
theorem nestAt_first {l r : List UInt8} (hl : l = 47 :: 42 :: r) : nestedN l = nestAt 1 2 l := by
  subst hl
  unfold nestAt nestedN
  simp only [List.drop_succ_cons, List.drop_zero]
  simp
  rcases nestN 1 r with _ | n
  · rfl
  · simp; omega

set_option maxHeartbeats 2000000 in
theorem nestedSize_any (s : ByteArray) (w : World) (hs : s.size ≤ 100000) (r : List UInt8) (hr : s.data.toList = 47 :: 42 :: r) :
    Calls Try.prog 87 #[.string s] w fun e w' => e = .returned (.int .i64 (nestedN s.data.toList)) ∧ w = w' := by
  have h2 : 2 ≤ s.size := by rw [size_list hr]; simp
  have HR := Lib.hid hr
  clear hr
  go_enter Try.func87, Try.ntmps87
  go_wp2_with fail
  go_loop [3, 4] (fun d i => ∃ (e k : Nat), k ≤ s.size ∧ e ≤ k ∧ d = .int .i64 e ∧ i = .int .i64 k ∧ ((k = 0 ∧ e = 0) ∨ (1 ≤ e ∧ nestedN s.data.toList = nestAt e k s.data.toList))) (fun _ i => s.size - (intOf i).toNat)
  case atStart => exact ⟨0, 0, Nat.zero_le _, Nat.le_refl _, rfl, rfl, .inl ⟨rfl, rfl⟩⟩
  case round =>
    obtain ⟨e, k, hk, hek, rfl, rfl, hR⟩ := hrel
    have R := Lib.hid hR
    clear hR
    by_cases hlt : k + 1 < s.size
    · have D := Lib.hid (drop2 s k hlt)
      have E2 := Lib.hid (ext2 s k hlt)
      rcases q1 : ((s.extract k (k + 2)).toList == [47, 42]) with _ | _
      · have Q1 := Lib.hid (show (s[k] == 47 && s[k + 1] == 42) = false by rw [← beq2, ← E2.out]; exact q1)
        have he : 1 ≤ e := by
          rcases R.out with ⟨h0, _⟩ | ⟨h1, _⟩
          · exfalso
            have := D.out
            subst h0
            rw [HR.out] at this
            simp at this
            have q := Q1.out
            simp at q
            exact q this.1.symm this.2.symm
          · exact h1
        have N := Lib.hid (show nestedN s.data.toList = nestAt e k s.data.toList by
          rcases R.out with ⟨_, h0⟩ | ⟨_, h1⟩
          · omega
          · exact h1)
        rcases q2 : ((s.extract k (k + 2)).toList == [42, 47]) with _ | _
        · have Q2 := Lib.hid (show (s[k] == 42 && s[k + 1] == 47) = false by rw [← beq2, ← E2.out]; exact q2)
          have z : ((e : Int) == 0) = false := by simp; omega
          go_wp2_with fail
          go_round
          case rel => exact ⟨e, k + 1, by omega, by omega, rfl, by go_num, .inr ⟨he, N.out.trans (nestAt_more D.out Q1.out Q2.out (drop1 s (k + 1) hlt))⟩⟩
          case measure => simp [intOf]; omega
        · have Q2 := Lib.hid (show (s[k] == 42 && s[k + 1] == 47) = true by rw [← beq2, ← E2.out]; exact q2)
          by_cases he1 : e = 1
          · have z : ((e : Int) - 1 == 0) = true := by rw [he1]; rfl
            have N2 := Lib.hid (show nestedN s.data.toList = k + 2 by rw [N.out, he1]; exact nestAt_end D.out Q2.out)
            clear he1
            go_wp2_with fail
            go_ret
            exact ⟨by rw [N2.out]; rfl, rfl⟩
          · have z : ((e : Int) - 1 == 0) = false := by simp; omega
            go_wp2_with fail
            go_round
            case rel => exact ⟨e - 1, k + 2, by omega, by omega, by congr 1; omega, by go_num, .inr ⟨by omega, N.out.trans (nestAt_shut D.out Q2.out rfl (by omega))⟩⟩
            case measure => simp [intOf]; omega
      · have Q1 := Lib.hid (show (s[k] == 47 && s[k + 1] == 42) = true by rw [← beq2, ← E2.out]; exact q1)
        have z : ((e : Int) + 1 == 0) = false := by simp; omega
        go_wp2_with fail
        go_round
        case rel =>
          refine ⟨e + 1, k + 2, by omega, by omega, by go_num, by go_num, .inr ⟨by omega, ?_⟩⟩
          rcases R.out with ⟨h0, h1⟩ | ⟨_, h1⟩
          · subst h0; subst h1
            exact nestAt_first HR.out
          · exact h1.trans (nestAt_open D.out Q1.out rfl)
        case measure => simp [intOf]; omega
    · have N := Lib.hid (show nestedN s.data.toList = 0 by
        rcases R.out with ⟨h0, _⟩ | ⟨_, h1⟩
        · omega
        · rw [h1]; exact nestAt_none (by simp; omega))
      go_wp2_with fail
      go_ret
      exact ⟨by rw [N.out]; rfl, rfl⟩
end Go.Proofs.Ytjiihfdbdbhhaaa
