/-
  A text between two marks: the document's own answer.
-/
import Derived.Test.YtjiihfdbdbhhaaaTokG
import Derived.Deep.QuietTactic
import Derived.BigQuiet
namespace Go.Proofs.Ytjiihfdbdbhhaaa
open Go.RowKit T

theorem size_list {t : ByteArray} {l : List UInt8} (h : t.data.toList = l) : t.size = l.length := by
  rw [← h]; simp
theorem mk_list {t : ByteArray} {l : List UInt8} (h : t.data.toList = l) : t = ⟨l.toArray⟩ := by
  rw [← h]
theorem sub_one' (s : ByteArray) (k : Nat) (h : k < s.size) : (s.data.toList.drop k).take 1 = [s[k]] := by
  have hk' : k < s.data.toList.length := by simpa using h
  rw [List.drop_eq_getElem_cons hk']
  simp
  rfl
theorem sub_one (s : ByteArray) (k : Nat) (h : k < s.size) : (s.extract k (k + 1)).data.toList = [s[k]] := by
  have hk' : k < s.data.toList.length := by simpa using h
  simp only [ByteArray.data_extract, Array.toList_extract, List.extract_eq_take_drop]
  rw [List.drop_eq_getElem_cons hk']
  simp
  rfl

set_option maxHeartbeats 2000000 in
theorem quoted_any (s Q : ByteArray) (m : UInt8) (w : World) (hQ : Q.data.toList = [m]) (hm : m ≠ 10) (hs : s.size ≤ 1000) :
    Calls Try.prog 36 #[.string s, .string Q] w fun e w' => e = .returned (.string ⟨(encL m s.data.toList).toArray⟩) ∧ ∃ n, w' = w.drewN n := by
  have hq1 : Q.size = 1 := by rw [size_list hQ]; rfl
  have hq0 : 0 < Q.size := by omega
  have hq : Q[0] = m := by rw [← headD_eq hq0, hQ]; rfl
  have C := Lib.hid hq
  have CQ := Lib.hid hQ
  have HM := Lib.hid hm
  have q1le : Q.size ≤ 1 := by omega
  clear hq hQ hq1 hm
  go_enter Try.func36, Try.ntmps36
  go_wp2_with fail
  go_loopw [5, 6] (fun o i wr => ∃ (k n : Nat) (t : ByteArray), k ≤ s.size ∧ i = .int .i64 k ∧ o = .string t ∧ t.data.toList = encP m (s.data.toList.take k) ∧ wr = w.drewN n) (fun _ i _ => s.size - (intOf i).toNat)
  case atStart => exact ⟨0, 0, Q, Nat.zero_le _, rfl, rfl, by rw [CQ.out]; rfl, rfl⟩
  case round =>
    obtain ⟨k, n, t, hk, rfl, rfl, ht, rfl⟩ := hrel
    have Ht := Lib.hid ht
    have hl := encP_le m (s.data.toList.take k)
    have hl2 : (s.data.toList.take k).length = k := by simp; omega
    have htl : t.size ≤ 2 * k + 1 := by rw [size_list ht]; omega
    clear ht hl hl2
    by_cases hlt : k < s.size
    · have HS := Lib.hid (encP_step s m k hlt)
      have HP := Lib.hid (sub_one' s k hlt)
      rcases q3 : ((s[k].toNat : Int) == 10) with _ | _
      · rcases q2 : ((s[k].toNat : Int) == 92) with _ | _
        · rcases q1 : ((s[k].toNat : Int) == (Q[0].toNat : Int)) with _ | _
          · have E := Lib.hid (show esc m s[k] = [s[k]] by
              have e1 : (s[k] == m) = false := beq_b _ _ _ (by rw [C.out]) _ q1
              rw [esc, e1, beq_b _ 92 92 rfl _ q2, beq_b _ 10 10 rfl _ q3]; rfl)
            go_wp2_with fail
            go_quiet (fail)
            go_wp2_with fail
            go_roundw
            case rel => exact ⟨k + 1, _, _, by omega, by go_num, rfl, by rw [HS.out, E.out]; simp [Ht.out, HP.out], rfl⟩
            case measure => simp [intOf]; omega
          · have E := Lib.hid (show esc m s[k] = [92, s[k]] by
              have e1 : (s[k] == m) = true := beq_b _ _ _ (by rw [C.out]) _ q1
              rw [esc, e1]; simp)
            go_wp2_with fail
            go_quiet (fail)
            go_wp2_with fail
            go_roundw
            case rel => exact ⟨k + 1, _, _, by omega, by go_num, rfl, by rw [HS.out, E.out]; simp [Ht.out, HP.out], rfl⟩
            case measure => simp [intOf]; omega
        · have E := Lib.hid (show esc m s[k] = [92, s[k]] by
              rw [esc, beq_b _ 92 92 rfl _ q2]; simp)
          go_wp2_with fail
          go_quiet (fail)
          go_wp2_with fail
          go_roundw
          case rel => exact ⟨k + 1, _, _, by omega, by go_num, rfl, by rw [HS.out, E.out]; simp [Ht.out, HP.out], rfl⟩
          case measure => simp [intOf]; omega
      · rcases q4 : ((s[k].toNat : Int) == 92) with _ | _
        · rcases q1 : ((s[k].toNat : Int) == (Q[0].toNat : Int)) with _ | _
          · have E := Lib.hid (show esc m s[k] = [92, 110] by
              have e1 : (s[k] == m) = false := beq_b _ _ _ (by rw [C.out]) _ q1
              rw [esc, e1, beq_b _ 92 92 rfl _ q4, beq_b _ 10 10 rfl _ q3]; rfl)
            go_wp2_with fail
            go_roundw
            case rel => exact ⟨k + 1, _, _, by omega, by go_num, rfl, by rw [HS.out, E.out]; simp [Ht.out], rfl⟩
            case measure => simp [intOf]; omega
          · exfalso
            have e1 : (s[k] == m) = true := beq_b _ _ _ (by rw [C.out]) _ q1
            have e2 := beq_b _ 10 10 rfl _ q3
            exact HM.out ((eq_of_beq e1).symm.trans (eq_of_beq e2))
        · exfalso
          simp only [beq_iff_eq] at q3 q4
          omega
    · have HS := Lib.hid (show s.data.toList.take k = s.data.toList from List.take_of_length_le (by simp; omega))
      go_wp2_with fail
      go_ret
      refine ⟨?_, _, rfl⟩
      have hh : (t ++ Q).data.toList = encL m s.data.toList := by simp [Ht.out, CQ.out, HS.out, encL]
      rw [← mk_list hh]; rfl
end Go.Proofs.Ytjiihfdbdbhhaaa
