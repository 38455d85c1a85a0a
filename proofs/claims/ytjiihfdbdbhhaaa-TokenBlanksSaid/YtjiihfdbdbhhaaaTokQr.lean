/-
  What stands in quotes, and runs of bytes: the document's own answer.
-/
import Derived.Test.YtjiihfdbdbhhaaaTokV
import Derived.Test.YtjiihfdbdbhhaaaTokRm
namespace Go.Proofs.Ytjiihfdbdbhhaaa
open Go.RowKit T

def runN (p : UInt8 → Bool) (s : ByteArray) (k0 : Nat) : Nat := k0 + ((s.data.toList.drop k0).takeWhile p).length
theorem runN_of {p : UInt8 → Bool} {s : ByteArray} {k0 k : Nat} (hk0 : k0 ≤ k) (hk : k ≤ s.size) (h : (s.extract k0 k).data.toList = (s.data.toList.drop k0).takeWhile p) : runN p s k0 = k := by
  unfold runN
  rw [← h]
  have := ext_size s k0 k hk
  rw [← size_list (rfl : (s.extract k0 k).data.toList = _), this]; omega
theorem runN_le (p : UInt8 → Bool) (s : ByteArray) (k0 : Nat) (h : k0 ≤ s.size) : k0 ≤ runN p s k0 ∧ runN p s k0 ≤ s.size := by
  unfold runN
  have := tw_le p (s.data.toList.drop k0)
  rw [List.length_drop] at this
  have e : s.data.toList.length = s.size := by simp
  omega
theorem runN_ext (p : UInt8 → Bool) (s : ByteArray) (k0 : Nat) : (s.extract k0 (runN p s k0)).data.toList = (s.data.toList.drop k0).takeWhile p := by
  unfold runN
  rw [ext_list, Nat.add_sub_cancel_left]
  exact (List.prefix_iff_eq_take.1 (List.takeWhile_prefix p)).symm

set_option maxHeartbeats 1000000 in
theorem run_digits (s : ByteArray) (k0 : Nat) (i : Int) (w : World) (hs : s.size ≤ 100000) (hi : i = (k0 : Int)) (hk0 : k0 ≤ s.size) :
    Calls Try.prog 78 #[.string s, .int .i64 i, .bool true] w fun e w' => e = .returned (.int .i64 (runN diU s k0 : Int)) ∧ w = w' := by
  subst hi
  go_enter Try.func78, Try.ntmps78
  go_wp2_with fail
  go_loop [1] (fun i => ∃ k : Nat, k0 ≤ k ∧ k ≤ s.size ∧ i = .int .i64 k ∧ Ran diU s k0 k) (fun i => s.size - (intOf i).toNat)
  case atStart => exact ⟨k0, Nat.le_refl _, by omega, rfl, Ran.start _ _ _⟩
  case round =>
    obtain ⟨k, hk0, hk, rfl, hR⟩ := hrel
    have R := Lib.hid hR
    clear hR
    by_cases hlt : k < s.size
    · rcases hb : diB (s[k].toNat : Int) with _ | _
      · have F := Lib.hid (runN_of hk0 hk (R.out.stop hlt hb))
        go_wp2_with (go_at_call 80; refine (digit_r_any _ _).mono ?_; rintro e w' ⟨rfl, rfl⟩)
        go_ret
        exact ⟨by rw [F.out]; rfl, rfl⟩
      · go_wp2_with (go_at_call 80; refine (digit_r_any _ _).mono ?_; rintro e w' ⟨rfl, rfl⟩)
        go_round
        case rel => exact ⟨k + 1, by omega, by omega, by go_num, R.out.step hk0 hlt hb⟩
        case measure => simp [intOf]; omega
    · have F := Lib.hid (runN_of hk0 hk (R.out.all hlt))
      go_wp2_with fail
      go_ret
      exact ⟨by rw [F.out]; rfl, rfl⟩

set_option maxHeartbeats 1000000 in
theorem run_words (s : ByteArray) (k0 : Nat) (i : Int) (w : World) (hs : s.size ≤ 100000) (hi : i = (k0 : Int)) (hk0 : k0 ≤ s.size) :
    Calls Try.prog 78 #[.string s, .int .i64 i, .bool false] w fun e w' => e = .returned (.int .i64 (runN woU s k0 : Int)) ∧ w = w' := by
  subst hi
  go_enter Try.func78, Try.ntmps78
  go_wp2_with fail
  go_loop [1] (fun i => ∃ k : Nat, k0 ≤ k ∧ k ≤ s.size ∧ i = .int .i64 k ∧ Ran woU s k0 k) (fun i => s.size - (intOf i).toNat)
  case atStart => exact ⟨k0, Nat.le_refl _, by omega, rfl, Ran.start _ _ _⟩
  case round =>
    obtain ⟨k, hk0, hk, rfl, hR⟩ := hrel
    have R := Lib.hid hR
    clear hR
    by_cases hlt : k < s.size
    · rcases hd : diB (s[k].toNat : Int) with _ | _
      · rcases hb : woB (s[k].toNat : Int) with _ | _
        · have F := Lib.hid (runN_of hk0 hk (R.out.stop hlt hb))
          go_wp2_with (first | (go_at_call 80; refine (digit_r_any _ _).mono ?_; rintro e w' ⟨rfl, rfl⟩) | (go_at_call 66; refine (inner_any _ _).mono ?_; rintro e w' ⟨rfl, rfl⟩))
          go_ret
          exact ⟨by rw [F.out]; rfl, rfl⟩
        · go_wp2_with (first | (go_at_call 80; refine (digit_r_any _ _).mono ?_; rintro e w' ⟨rfl, rfl⟩) | (go_at_call 66; refine (inner_any _ _).mono ?_; rintro e w' ⟨rfl, rfl⟩))
          go_round
          case rel => exact ⟨k + 1, by omega, by omega, by go_num, R.out.step hk0 hlt hb⟩
          case measure => simp [intOf]; omega
      · have hb := Lib.hid (show woU s[k] = true by unfold woU woB; rw [hd]; simp)
        go_wp2_with (first | (go_at_call 80; refine (digit_r_any _ _).mono ?_; rintro e w' ⟨rfl, rfl⟩))
        go_round
        case rel => exact ⟨k + 1, by omega, by omega, by go_num, R.out.step hk0 hlt hb.out⟩
        case measure => simp [intOf]; omega
    · have F := Lib.hid (runN_of hk0 hk (R.out.all hlt))
      go_wp2_with fail
      go_ret
      exact ⟨by rw [F.out]; rfl, rfl⟩

/-- what the document's own look at quotes hands back -/
def qV (o : Option (List UInt8 × Nat)) (most k0 : Nat) : Value := match o with
  | none => .tuple #[.string ⟨#[]⟩, .int .i64 (k0 : Int), .bool false]
  | some (t, n) => .tuple #[.string ⟨t.toArray⟩, .int .i64 ((k0 : Int) + 1 + (n : Int)), .bool (decide (t.length ≤ most))]

set_option maxHeartbeats 4000000 in
set_option maxRecDepth 100000 in
theorem quote_any (s : ByteArray) (k0 most : Nat) (i mi : Int) (m : UInt8) (w : World) (hs : s.size ≤ 100000) (hi : i = (k0 : Int)) (hmi : mi = (most : Int)) (hlt0 : k0 < s.size) (hm : s[k0] = m) (hm2 : (110 == m) = false) :
    Calls Try.prog 79 #[.string s, .int .i64 i, .int .i64 mi] w fun e w' => e = .returned (qV (qpar m (s.data.toList.drop (k0 + 1))) most k0) ∧ w = w' := by
  subst hi; subst hmi
  have HM := Lib.hid hm
  have HM2 := Lib.hid hm2
  clear hm hm2
  go_enter Try.func79, Try.ntmps79
  go_wp2_with fail
  go_loop [10, 11] (fun v i => ∃ (k : Nat) (M : List UInt8) (T : ByteArray), k0 + 1 ≤ k ∧ k ≤ s.size ∧ i = .int .i64 k ∧ v = .string T ∧ T.data.toList = M ∧ T.size ≤ k ∧ qpar m (s.data.toList.drop (k0 + 1)) = qJoin M (k - (k0 + 1)) (qpar m (s.data.toList.drop k))) (fun _ i => s.size - (intOf i).toNat)
  case atStart =>
    refine ⟨k0 + 1, [], ⟨#[]⟩, Nat.le_refl _, by omega, by go_num, rfl, rfl, Nat.zero_le _, ?_⟩
    rcases qpar m (s.data.toList.drop (k0 + 1)) with _ | p <;> simp [qJoin]
  case round =>
    obtain ⟨k, M, T, hk0, hk, rfl, rfl, hT, hTs, hq⟩ := hrel
    have HT := Lib.hid hT
    have HR := Lib.hid hq
    have hTM : T.size = M.length := size_list hT
    have HTM := Lib.hid hTM
    clear hT hq hTM
    by_cases hlt : k < s.size
    · have HP := Lib.hid (sub_one' s k hlt)
      have HD := Lib.hid (drop1 s k hlt)
      rcases q1 : ((s[k].toNat : Int) == (s[k0].toNat : Int)) with _ | _
      · have hx : (s[k] == m) = false := beq_b _ m _ (by rw [HM.out]) _ q1
        have hst := qpar_step m s[k] (s.data.toList.drop (k + 1)) hx
        rw [← HD.out] at hst
        have HX := Lib.hid hst
        clear hst
        rcases q2 : ((s[k].toNat : Int) == 92) with _ | _
        · have e2 := beq_b _ 92 92 rfl _ q2
          have hpt : ptB m (s.data.toList.drop k) = if prB (s[k].toNat : Int) = true then (s[k], 1) else (0, 0) := by
            rw [HD.out]
            rcases hr : s.data.toList.drop (k + 1) with _ | ⟨d, r⟩
            · rw [ptB, e2]; rfl
            · rw [ptB, e2]; rfl
          have HPT := Lib.hid hpt
          clear hpt e2
          by_cases p1 : (s[k].toNat : Int) < 32 ∨ 126 < (s[k].toNat : Int)
          · have F := Lib.hid (show qpar m (s.data.toList.drop (k0 + 1)) = none by
              have : prB (s[k].toNat : Int) = false := by unfold prB; simp; omega
              rw [HR.out, HX.out, HPT.out, this]; rfl)
            rcases Decidable.em ((s[k].toNat : Int) < 32) with p2 | p2
            · clear p1
              go_wp2_with fail
              go_ret3
              rw [F.out]
              exact ⟨rfl, rfl⟩
            · have p3 : 126 < (s[k].toNat : Int) := by omega
              clear p1
              go_wp2_with fail
              go_ret3
              rw [F.out]
              exact ⟨rfl, rfl⟩
          · have p2 : ¬ (s[k].toNat : Int) < 32 := by omega
            have p3 : ¬ 126 < (s[k].toNat : Int) := by omega
            have NX := Lib.hid (show qpar m (s.data.toList.drop (k0 + 1)) = qJoin (M ++ [s[k]]) (k + 1 - (k0 + 1)) (qpar m (s.data.toList.drop (k + 1))) by
              have : prB (s[k].toNat : Int) = true := by unfold prB; simp; omega
              rw [HR.out, HX.out, HPT.out, this]
              simp only [if_true]
              rw [if_neg (by decide), qJoin_step, List.drop_drop]
              congr 1; omega)
            clear p1
            go_wp2_with fail
            go_round
            case rel => exact ⟨k + 1, M ++ [s[k]], _, by omega, by omega, by go_num, rfl, by simp [HT.out, HP.out], by simp; omega, NX.out⟩
            case measure => simp [intOf]; omega
        · have e2 := beq_b _ 92 92 rfl _ q2
          by_cases h1 : k + 1 = s.size
          · have F := Lib.hid (show qpar m (s.data.toList.drop (k0 + 1)) = none by
              rw [HR.out, HX.out]
              have : ptB m (s.data.toList.drop k) = (0, 0) := by
                rw [HD.out, List.drop_of_length_le (l := s.data.toList) (i := k + 1) (by simp; omega), ptB, e2]; rfl
              rw [this]; rfl)
            have z : ((k : Int) + 1 == (s.size : Int)) = true := by simp; omega
            clear h1 e2
            go_wp2_with fail
            go_ret3
            rw [F.out]
            exact ⟨rfl, rfl⟩
          · have h2 : k + 1 < s.size := by omega
            have z : ((k : Int) + 1 == (s.size : Int)) = false := by simp; omega
            have HP2 := Lib.hid (sub_one' s (k + 1) h2)
            have hpt : ptB m (s.data.toList.drop k) = if (s[k + 1] == m || s[k + 1] == 92) = true then (s[k + 1], 2) else if (s[k + 1] == 110) = true then (10, 2) else (0, 0) := by
              rw [drop2 s k h2, ptB, e2]; rfl
            have HPT := Lib.hid hpt
            clear hpt e2 h1
            rcases r1 : ((s[k + 1].toNat : Int) == (s[k0].toNat : Int)) with _ | _
            · have r1' : ((s[k + 1].toNat : Int) != (s[k0].toNat : Int)) = true := by simp only [bne, r1]; rfl
              rcases r2 : ((s[k + 1].toNat : Int) == 92) with _ | _
              · have r2' : ((s[k + 1].toNat : Int) != 92) = true := by simp only [bne, r2]; rfl
                rcases r3 : ((s[k + 1].toNat : Int) == 110) with _ | _
                · have r3' : ((s[k + 1].toNat : Int) != 110) = true := by simp only [bne, r3]; rfl
                  have F := Lib.hid (show qpar m (s.data.toList.drop (k0 + 1)) = none by
                    have PT := HPT.out
                    rw [beq_b _ m _ (by rw [HM.out]) _ r1, beq_b _ 92 92 rfl _ r2, beq_b _ 110 110 rfl _ r3] at PT
                    simp only [Bool.or_self, Bool.false_eq_true, if_false] at PT
                    rw [HR.out, HX.out, PT]; rfl)
                  go_wp2_with fail
                  go_ret3
                  rw [F.out]
                  exact ⟨rfl, rfl⟩
                · have r3' : ((s[k + 1].toNat : Int) != 110) = false := by simp only [bne, r3]; rfl
                  have NX := Lib.hid (show qpar m (s.data.toList.drop (k0 + 1)) = qJoin (M ++ [10]) (k + 2 - (k0 + 1)) (qpar m (s.data.toList.drop (k + 2))) by
                    have PT := HPT.out
                    rw [beq_b _ m _ (by rw [HM.out]) _ r1, beq_b _ 92 92 rfl _ r2, beq_b _ 110 110 rfl _ r3] at PT
                    simp only [Bool.or_self, Bool.false_eq_true, if_false, if_true] at PT
                    rw [HR.out, HX.out, PT]
                    simp only []
                    rw [if_neg (by decide), qJoin_step, List.drop_drop]
                    congr 1; omega)
                  have e10 : (T ++ ({ data := #[10] } : ByteArray)).size ≤ k + 2 := by
                    have e : ({ data := #[10] } : ByteArray).size = 1 := rfl
                    rw [ByteArray.size_append, e]; omega
                  have E10 := Lib.hid e10
                  clear e10
                  go_wp2_with fail
                  go_round
                  case rel => exact ⟨k + 2, M ++ [10], _, by omega, by omega, by go_num, rfl, by simp [HT.out], E10.out, NX.out⟩
                  case measure => simp [intOf]; omega
              · have r2' : ((s[k + 1].toNat : Int) != 92) = false := by simp only [bne, r2]; rfl
                have r3 : ((s[k + 1].toNat : Int) == 110) = false := by
                  simp only [beq_iff_eq] at r2
                  simp; omega
                have NX := Lib.hid (show qpar m (s.data.toList.drop (k0 + 1)) = qJoin (M ++ [s[k + 1]]) (k + 2 - (k0 + 1)) (qpar m (s.data.toList.drop (k + 2))) by
                  have PT := HPT.out
                  rw [beq_b _ 92 92 rfl _ r2] at PT
                  simp only [Bool.or_true, if_true] at PT
                  rw [HR.out, HX.out, PT]
                  simp only []
                  rw [if_neg (by decide), qJoin_step, List.drop_drop]
                  congr 1; omega)
                go_wp2_with fail
                go_round
                case rel => exact ⟨k + 2, M ++ [s[k + 1]], _, by omega, by omega, by go_num, rfl, by simp [HT.out, HP2.out], by simp; omega, NX.out⟩
                case measure => simp [intOf]; omega
            · have r1' : ((s[k + 1].toNat : Int) != (s[k0].toNat : Int)) = false := by simp only [bne, r1]; rfl
              have g1 : (s[k + 1] == m) = true := beq_b _ m _ (by rw [HM.out]) _ r1
              have r3 : ((s[k + 1].toNat : Int) == 110) = false := by
                rcases r3 : ((s[k + 1].toNat : Int) == 110) with _ | _
                · rfl
                · exfalso
                  have e3 := eq_of_beq (beq_b _ 110 110 rfl _ r3)
                  have e1 := eq_of_beq g1
                  have := HM2.out
                  rw [← e1, e3] at this
                  revert this; decide
              have NX := Lib.hid (show qpar m (s.data.toList.drop (k0 + 1)) = qJoin (M ++ [s[k + 1]]) (k + 2 - (k0 + 1)) (qpar m (s.data.toList.drop (k + 2))) by
                have PT := HPT.out
                rw [g1] at PT
                simp only [Bool.true_or, if_true] at PT
                rw [HR.out, HX.out, PT]
                simp only []
                rw [if_neg (by decide), qJoin_step, List.drop_drop]
                congr 1; omega)
              clear g1
              go_wp2_with fail
              go_round
              case rel => exact ⟨k + 2, M ++ [s[k + 1]], _, by omega, by omega, by go_num, rfl, by simp [HT.out, HP2.out], by simp; omega, NX.out⟩
              case measure => simp [intOf]; omega
      · have hx : (s[k] == m) = true := beq_b _ m _ (by rw [HM.out]) _ q1
        have F := Lib.hid (show qpar m (s.data.toList.drop (k0 + 1)) = some (M, 1 + (k - (k0 + 1))) by
          rw [HR.out, HD.out, qpar_mark m _ _ hx]; simp [qJoin])
        have HT2 := Lib.hid (mk_list HT.out)
        by_cases hmm : M.length ≤ most
        · have hmi : (T.size : Int) ≤ (most : Int) := by rw [HTM.out]; omega
          go_wp2_with fail
          go_ret3
          rw [F.out]
          refine ⟨?_, rfl⟩
          simp only [qV]
          rw [← HT2.out, decide_eq_true hmm]
          have : (k0 : Int) + 1 + ((1 + (k - (k0 + 1)) : Nat) : Int) = (k : Int) + 1 := by omega
          rw [this]; rfl
        · have hmi : ¬ (T.size : Int) ≤ (most : Int) := by rw [HTM.out]; omega
          go_wp2_with fail
          go_ret3
          rw [F.out]
          refine ⟨?_, rfl⟩
          simp only [qV]
          rw [← HT2.out, decide_eq_false hmm]
          have : (k0 : Int) + 1 + ((1 + (k - (k0 + 1)) : Nat) : Int) = (k : Int) + 1 := by omega
          rw [this]; rfl
    · have F := Lib.hid (show qpar m (s.data.toList.drop (k0 + 1)) = none by
        rw [HR.out, List.drop_of_length_le (l := s.data.toList) (i := k) (by simp; omega)]; rfl)
      go_wp2_with fail
      go_ret3
      rw [F.out]
      exact ⟨rfl, rfl⟩
end Go.Proofs.Ytjiihfdbdbhhaaa
