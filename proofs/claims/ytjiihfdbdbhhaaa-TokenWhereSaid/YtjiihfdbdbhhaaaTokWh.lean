/-
  The line and the column of a place: of the program and of the document's own answer; and the law: they are one.
-/
import Derived.Test.YtjiihfdbdbhhaaaTokAw
import Derived.Lib.LastIndexByte
namespace Go.Proofs.Ytjiihfdbdbhhaaa
open Go.RowKit T

theorem lastIdx_ext (s : ByteArray) (k : Nat) (hk : k ≤ s.size) : ∀ j, j ≤ k → Lib.lastIdx (s.extract 0 k) 10 j = Lib.lastIdx s 10 j := by
  intro j
  induction j with
  | zero => intro _; rfl
  | succ j ih =>
    intro hj
    have h1 : j < (s.extract 0 k).size := by simp; omega
    have h2 : j < s.size := by omega
    have e : (s.extract 0 k).data[j]! = s.data[j]! := by
      have h1' : j < (s.extract 0 k).data.size := h1
      have h2' : j < s.data.size := h2
      rw [getElem!_pos _ j h1', getElem!_pos _ j h2']
      simp [ByteArray.data_extract]
    unfold Lib.lastIdx
    rw [e, ih (by omega)]
theorem lastIdx_step (s : ByteArray) (k : Nat) (h : k < s.size) : Lib.lastIdx s 10 (k + 1) = if ((s[k].toNat : Int) == 10) = true then (k : Int) else Lib.lastIdx s 10 k := by
  have h2' : k < s.data.size := h
  rw [Lib.lastIdx, getElem!_pos _ k h2']
  simp only [beq_iff_eq]
  rfl
theorem lastIdx_le (s : ByteArray) (k : Nat) : -1 ≤ Lib.lastIdx s 10 k ∧ Lib.lastIdx s 10 k < k := by
  induction k with
  | zero => simp [Lib.lastIdx]
  | succ k ih => unfold Lib.lastIdx; split <;> omega
def lineI (s : ByteArray) (k : Nat) : Int := ((s.data.toList.take k).count 10 : Nat) + 1
def colI (s : ByteArray) (k : Nat) : Int := (k : Int) - Lib.lastIdx s 10 k
theorem line_step (s : ByteArray) (k : Nat) (h : k < s.size) : lineI s (k + 1) = lineI s k + if ((s[k].toNat : Int) == 10) = true then 1 else 0 := by
  unfold lineI
  rw [take_snoc s k h, List.count_append]
  rcases q : ((s[k].toNat : Int) == 10) with _ | _
  · have := beq_b _ 10 10 rfl _ q
    simp [List.count_cons, this]
  · have := beq_b _ 10 10 rfl _ q
    simp [List.count_cons, this]
theorem col_step (s : ByteArray) (k : Nat) (h : k < s.size) : colI s (k + 1) = if ((s[k].toNat : Int) == 10) = true then 1 else colI s k + 1 := by
  unfold colI
  rw [lastIdx_step s k h]
  split <;> omega
theorem line_le (s : ByteArray) (k : Nat) : 1 ≤ lineI s k ∧ lineI s k ≤ k + 1 := by
  unfold lineI
  have h1 := List.count_le_length (a := (10 : UInt8)) (l := s.data.toList.take k)
  have h2 := List.length_take_le k s.data.toList
  omega
theorem col_le (s : ByteArray) (k : Nat) : 1 ≤ colI s k ∧ colI s k ≤ k + 1 := by
  unfold colI
  have := lastIdx_le s k
  omega
/-- what both hand back -/
def whereV (s : ByteArray) (i : Int) : Int × Int × Int := if i < 0 ∨ (s.size : Int) < i then (0, 0, 2) else (lineI s i.toNat, colI s i.toNat, 0)

set_option maxHeartbeats 1000000 in
theorem Where_any (s : ByteArray) (i : Int) (w : World) (hs : s.size ≤ 40000) :
    Calls Try.prog 29 #[.string s, .int .i64 i] w fun e w' => e = .returned (.tuple #[.int .i64 (whereV s i).1, .int .i64 (whereV s i).2.1, .int .i64 (whereV s i).2.2]) ∧ w = w' := by
  by_cases h1 : i < 0
  · have F := Lib.hid (show whereV s i = (0, 0, 2) by unfold whereV; rw [if_pos (.inl h1)])
    go_enter Try.func29, Try.ntmps29
    go_wp2_with fail
    go_ret3
    rw [F.out]
    exact ⟨rfl, rfl⟩
  · by_cases h2 : (s.size : Int) < i
    · have F := Lib.hid (show whereV s i = (0, 0, 2) by unfold whereV; rw [if_pos (.inr h2)])
      go_enter Try.func29, Try.ntmps29
      go_wp2_with fail
      go_ret3
      rw [F.out]
      exact ⟨rfl, rfl⟩
    · obtain ⟨k, rfl⟩ := Int.eq_ofNat_of_zero_le (by omega : 0 ≤ i)
      have hk : k ≤ s.size := by omega
      have F := Lib.hid (show whereV s (k : Int) = (lineI s k, colI s k, 0) by unfold whereV; rw [if_neg (by omega)]; simp)
      have hl := line_le s k
      have hc := col_le s k
      have EL := Lib.hid (show ((Lib.countByte (s.extract 0 k).data.toList 10 : Nat) : Int) = lineI s k - 1 by
        unfold Lib.countByte lineI
        rw [ext_list]; simp)
      have EC := Lib.hid (show Lib.lastIndexByte (s.extract 0 k) 10 = (k : Int) - colI s k by
        unfold Lib.lastIndexByte colI
        rw [ext_size s 0 k hk, Nat.sub_zero, lastIdx_ext s k hk k (Nat.le_refl _)]; omega)
      have C1 := Try.strings_Count_one (s.extract 0 k) 10 w
      rw [EL.out] at C1
      have C2 := Try.strings_LastIndexByte (s.extract 0 k) 10 (by simp; omega) w
      rw [EC.out] at C2
      have C1 := Lib.hid C1
      have C2 := Lib.hid C2
      generalize lineI s k = ln at C1 hl F
      generalize colI s k = cl at C2 hc F
      clear h1 h2
      go_enter Try.func29, Try.ntmps29
      go_wp2_with fail
      refine C1.out.mono ?_
      rintro e w' ⟨rfl, rfl⟩
      go_wp2_with fail
      refine C2.out.mono ?_
      rintro e w' ⟨rfl, rfl⟩
      go_wp2_with fail
      go_ret3
      rw [F.out]
      refine ⟨?_, rfl⟩
      rw [show (k : Int) - ((k : Int) - cl) = cl by omega]
      rfl

set_option maxHeartbeats 1000000 in
theorem Where_r_any (s : ByteArray) (i : Int) (w : World) (hs : s.size ≤ 40000) :
    Calls Try.prog 30 #[.string s, .int .i64 i] w fun e w' => e = .returned (.tuple #[.int .i64 (whereV s i).1, .int .i64 (whereV s i).2.1, .int .i64 (whereV s i).2.2]) ∧ w = w' := by
  by_cases h1 : i < 0
  · have F := Lib.hid (show whereV s i = (0, 0, 2) by unfold whereV; rw [if_pos (.inl h1)])
    go_enter Try.func30, Try.ntmps30
    go_wp2_with fail
    go_ret3
    rw [F.out]
    exact ⟨rfl, rfl⟩
  · by_cases h2 : (s.size : Int) < i
    · have F := Lib.hid (show whereV s i = (0, 0, 2) by unfold whereV; rw [if_pos (.inr h2)])
      go_enter Try.func30, Try.ntmps30
      go_wp2_with fail
      go_ret3
      rw [F.out]
      exact ⟨rfl, rfl⟩
    · obtain ⟨k0, rfl⟩ := Int.eq_ofNat_of_zero_le (by omega : 0 ≤ i)
      have hk0 : k0 ≤ s.size := by omega
      have F := Lib.hid (show whereV s (k0 : Int) = (lineI s k0, colI s k0, 0) by unfold whereV; rw [if_neg (by omega)]; simp)
      have z1 : decide ((k0 : Int) < 0) = false := by simp
      clear h1 h2
      go_enter Try.func30, Try.ntmps30
      go_wp2_with fail
      go_loop [7, 8, 9] (fun l c i => ∃ k : Nat, k ≤ k0 ∧ i = .int .i64 k ∧ l = .int .i64 (lineI s k) ∧ c = .int .i64 (colI s k)) (fun _ _ i => k0 - (intOf i).toNat)
      case atStart => exact ⟨0, Nat.zero_le _, rfl, rfl, rfl⟩
      case round =>
        obtain ⟨k, hk, rfl, rfl, rfl⟩ := hrel
        have hl := line_le s k
        have hc := col_le s k
        by_cases hlt : k < k0
        · have hlt2 : k < s.size := by omega
          have SL := Lib.hid (line_step s k hlt2)
          have SC := Lib.hid (col_step s k hlt2)
          generalize lineI s k = ln at *
          generalize colI s k = cl at *
          rcases q : ((s[k].toNat : Int) == 10) with _ | _
          · have SL2 := Lib.hid (show lineI s (k + 1) = ln by rw [SL.out, q]; simp)
            have SC2 := Lib.hid (show colI s (k + 1) = cl + 1 by rw [SC.out, q]; simp)
            go_wp2_with fail
            go_round
            case rel => exact ⟨k + 1, by omega, by go_num, by rw [SL2.out], by rw [SC2.out]⟩
            case measure => simp [intOf]; omega
          · have SL2 := Lib.hid (show lineI s (k + 1) = ln + 1 by rw [SL.out, q]; simp)
            have SC2 := Lib.hid (show colI s (k + 1) = 1 by rw [SC.out, q]; simp)
            go_wp2_with fail
            go_round
            case rel => exact ⟨k + 1, by omega, by go_num, by rw [SL2.out], by rw [SC2.out]⟩
            case measure => simp [intOf]; omega
        · obtain rfl : k = k0 := by omega
          generalize lineI s k = ln at *
          generalize colI s k = cl at *
          go_wp2_with fail
          go_ret3
          rw [F.out]
          exact ⟨rfl, rfl⟩

set_option maxHeartbeats 1000000 in
theorem TokenWhere_any (s : ByteArray) (i : Int) (w : World) (hs : s.size ≤ maxLen) :
    Calls Try.prog 6 #[.string s, .int .i64 i] w fun e w' => e = .returned (.bool true) ∧ Below w.heap.size w w' := by
  unfold maxLen at hs
  by_cases h : s.size ≤ 40000
  · have C1 := Where_any s i w h
    have C2 := Where_r_any s i w h
    generalize (whereV s i).1 = a at C1 C2
    generalize (whereV s i).2.1 = b at C1 C2
    generalize (whereV s i).2.2 = c at C1 C2
    have C1 := Lib.hid C1
    have C2 := Lib.hid C2
    go_enter Try.func6, Try.ntmps6
    go_wp2_with fail
    refine C1.out.mono ?_
    rintro e w' ⟨rfl, rfl⟩
    go_wp2_with fail
    refine C2.out.mono ?_
    rintro e w' ⟨rfl, rfl⟩
    go_wp2_with fail
    refine (awake_any _).mono ?_
    rintro e w' ⟨rfl, hb⟩
    go_wp2_with fail
    go_ret
    exact ⟨rfl, hb⟩
  · go_enter Try.func6, Try.ntmps6
    go_wp2_with fail
    refine (awake_any _).mono ?_
    rintro e w' ⟨rfl, hb⟩
    go_wp2_with fail
    go_ret
    exact ⟨rfl, hb⟩
end Go.Proofs.Ytjiihfdbdbhhaaa
