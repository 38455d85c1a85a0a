/-
  The readers of signs and of ints, of the program.
-/
import Derived.Test.YtjiihfdbdbhhaaaTokO
namespace Go.Proofs.Ytjiihfdbdbhhaaa
open Go.RowKit T

theorem sign_bool (s : ByteArray) (k0 n : Nat) (h : k0 + n ≤ s.size) : (decide (n ≤ (s.data.toList.drop k0).length) && signL ((s.data.toList.drop k0).take n)) = signL (s.extract k0 (k0 + n)).toList := by
  have hl : (s.data.toList.drop k0).length = s.size - k0 := by simp
  rw [hl, decide_eq_true (by omega), Bool.true_and, Lib.toList_data, ext_list, Nat.add_sub_cancel_left]
theorem sign_short (s : ByteArray) (k0 n : Nat) (h : ¬ k0 + n ≤ s.size) (h0 : k0 ≤ s.size) : (decide (n ≤ (s.data.toList.drop k0).length) && signL ((s.data.toList.drop k0).take n)) = false := by
  have hl : (s.data.toList.drop k0).length = s.size - k0 := by simp
  rw [hl, decide_eq_false (by omega), Bool.false_and]
def sgB (s : ByteArray) (k0 n : Nat) : Bool := decide (k0 + n ≤ s.size) && signL (s.extract k0 (k0 + n)).toList
theorem sgB_eq (s : ByteArray) (k0 n : Nat) (h0 : k0 ≤ s.size) : (decide (n ≤ (s.data.toList.drop k0).length) && signL ((s.data.toList.drop k0).take n)) = sgB s k0 n := by
  unfold sgB
  by_cases h : k0 + n ≤ s.size
  · rw [decide_eq_true h, Bool.true_and]; exact sign_bool s k0 n h
  · rw [decide_eq_false h, Bool.false_and]; exact sign_short s k0 n h h0
theorem sign_of (s : ByteArray) (k0 : Nat) (h0 : k0 ≤ s.size) : signT (s.data.toList.drop k0) =
    if sgB s k0 3 = true then some ⟨kSign, (s.extract k0 (k0 + 3)).data.toList, 3⟩ else if sgB s k0 2 = true then some ⟨kSign, (s.extract k0 (k0 + 2)).data.toList, 2⟩ else if sgB s k0 1 = true then some ⟨kSign, (s.extract k0 (k0 + 1)).data.toList, 1⟩ else none := by
  unfold signT
  rw [sgB_eq s k0 3 h0, sgB_eq s k0 2 h0, sgB_eq s k0 1 h0, ext_list, ext_list, ext_list, Nat.add_sub_cancel_left, Nat.add_sub_cancel_left, Nat.add_sub_cancel_left]
theorem sgB_le {s : ByteArray} {k0 n : Nat} (h : sgB s k0 n = true) : k0 + n ≤ s.size ∧ signL (s.extract k0 (k0 + n)).toList = true := by
  simpa [sgB] using h
theorem sgB_no {s : ByteArray} {k0 n : Nat} (h : sgB s k0 n = false) : ¬ k0 + n ≤ s.size ∨ k0 + n ≤ s.size ∧ signL (s.extract k0 (k0 + n)).toList = false := by
  unfold sgB at h
  by_cases h' : k0 + n ≤ s.size
  · right; exact ⟨h', by simpa [h'] using h⟩
  · exact .inl h'
/-- what the signs that are tried from n on downward come to -/
def signFrom (s : ByteArray) (k0 : Nat) : Nat → Option Rd
  | 0 => none
  | n + 1 => if sgB s k0 (n + 1) = true then some ⟨kSign, (s.extract k0 (k0 + (n + 1))).data.toList, n + 1⟩ else signFrom s k0 n
theorem sign_from (s : ByteArray) (k0 : Nat) (h0 : k0 ≤ s.size) : signT (s.data.toList.drop k0) = signFrom s k0 3 := sign_of s k0 h0

theorem rd_mk' {t : ByteArray} {k : List UInt8} {b : ByteArray} (hb : b.data.toList = k) (i j : Int) (n : Nat) (hj : j = i + (n : Int)) :
    (.tuple #[.agg #[.string b, .string t, .int .i64 i], .int .i64 j, .bool true] : Value) = rdV (some ⟨k, t.data.toList, n⟩) i := by
  subst hb; subst hj
  simp only [rdV, ← mk_list (rfl : b.data.toList = b.data.toList), ← mk_list (rfl : t.data.toList = t.data.toList)]

set_option maxHeartbeats 2000000 in
theorem readSign_any (s : ByteArray) (k0 : Nat) (i : Int) (w : World) (hs : s.size ≤ 100000) (hi : i = (k0 : Int)) (hlt0 : k0 < s.size) :
    Calls Try.prog 76 #[.string s, .int .i64 i] w fun e w' => e = .returned (rdV (signT (s.data.toList.drop k0)) k0) ∧ Below w.heap.size w w' := by
  subst hi
  have HF := Lib.hid (sign_from s k0 (by omega))
  go_enter Try.func76, Try.ntmps76
  go_wp2_with fail
  go_loop [7] (fun i => ∃ n : Nat, n ≤ 3 ∧ i = .int .i64 n ∧ signT (s.data.toList.drop k0) = signFrom s k0 n) (fun i => (intOf i).toNat)
  case atStart => exact ⟨3, Nat.le_refl _, rfl, HF.out⟩
  case round =>
    obtain ⟨n, hn, rfl, hR⟩ := hrel
    have R := Lib.hid hR
    clear hR
    rcases n with _ | n
    · have F := Lib.hid (show signT (s.data.toList.drop k0) = none from R.out)
      go_wp2_with fail
      go_returns
      rw [F.out]
      exact ⟨rfl, (Below.refl _ _).alloc (Nat.le_refl _) _⟩
    · rcases hg : sgB s k0 (n + 1) with _ | _
      · have F := R.out
        rw [signFrom, hg] at F
        have F := Lib.hid F
        rcases sgB_no hg with h | ⟨h, h'⟩
        · clear R hg
          have h1 : ¬ ((k0 : Int) + ((n : Int) + 1) ≤ (s.size : Int)) := by omega
          go_wp2_with fail
          go_round
          case rel => exact ⟨n, by omega, by congr 1, F.out⟩
          case measure => simp [intOf]
        · clear R hg
          go_wp2_with (go_at_call 40; refine (isSign_any _ _).mono ?_; rintro e w' ⟨rfl, rfl⟩)
          go_round
          case rel => exact ⟨n, by omega, by congr 1, F.out⟩
          case measure => simp [intOf]
      · have F := R.out
        rw [signFrom, hg] at F
        have F := Lib.hid F
        obtain ⟨h, h'⟩ := sgB_le hg
        clear R hg
        go_wp2_with (go_at_call 40; refine (isSign_any _ _).mono ?_; rintro e w' ⟨rfl, rfl⟩)
        go_returns
        rw [F.out]
        exact ⟨congrArg _ (rd_mk' rfl _ _ _ (by omega)), (Below.refl _ _).alloc (Nat.le_refl _) _⟩
end Go.Proofs.Ytjiihfdbdbhhaaa
