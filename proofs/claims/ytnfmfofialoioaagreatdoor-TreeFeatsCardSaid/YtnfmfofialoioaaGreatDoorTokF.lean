/-
  Ints: of the program and of the document's own answers.
-/
import Derived.Test.YtnfmfofialoioaaGreatDoorTokE
import Derived.Deep.DeepCutAuto
import Derived.Lib.IndexBytes
namespace Go.Proofs.YtnfmfofialoioaaGreatDoor
open Go.RowKit T

theorem headD_eq {s : ByteArray} (h : 0 < s.size) : s.data.toList.headD 0 = s[0] := by
  have h' : 0 < s.data.toList.length := by simpa using h
  have e2 : s.data.toList[0] = s[0] := by simp [ByteArray.getElem_eq_getElem_data]
  rw [← e2]
  simp [List.headD_eq_head?_getD, List.head?_eq_getElem?, List.getElem?_eq_getElem h']
theorem beq_byte (c : UInt8) (n : Nat) (hn : n < 256) (b : Bool) (h : ((c.toNat : Int) == (n : Int)) = b) : (c == UInt8.ofNat n) = b := by
  rw [← h, Bool.eq_iff_iff]
  simp [← UInt8.toNat_inj]
  rw [Nat.mod_eq_of_lt hn]
  omega

theorem beq_b (c m : UInt8) (n : Int) (hm : (m.toNat : Int) = n) (b : Bool) (h : ((c.toNat : Int) == n) = b) : (c == m) = b := by
  rw [← h, ← hm, Bool.eq_iff_iff]
  simp [← UInt8.toNat_inj]
  omega

set_option maxHeartbeats 1000000 in
theorem isInt_any (s : ByteArray) (w : World) (hs : s.size ≤ maxLen) :
    Calls Tryz.prog 20 #[.string s] w fun e w' => e = .returned (.bool (intL s.data.toList)) ∧ w = w' := by
  unfold maxLen at hs
  rcases hz : (s.toList == [48]) with _ | _
  · have hz' : s.data.toList ≠ [48] := by rw [Lib.toList_data] at hz; simpa using hz
    have Z := Lib.hid hz'
    clear hz'
    rcases Nat.eq_zero_or_pos s.size with h0 | h0
    · have he := toList_zero h0
      have E := Lib.hid (show intL s.data.toList = false by
        rw [Lib.toList_data] at he; rw [he]; rfl)
      clear h0
      go_enter Tryz.func20, Tryz.ntmps20
      go_wp2_with fail
      go_ret
      exact ⟨by rw [E.out]; rfl, rfl⟩
    have he := isEmpty_pos h0
    have E : Hid (∃ t : ByteArray, (t = if ((s[0].toNat : Int) == 126) = true then s.extract 1 s.size else s) ∧ t.size ≤ 9223372036854775807 ∧ restL t.data.toList = intL s.data.toList) := by
      refine Lib.hid ⟨_, rfl, ?_, ?_⟩
      · split
        · simp; omega
        · omega
      · split
        · rename_i h1
          rw [intL_rest_minus s.data.toList (by rw [headD_eq h0]; exact eq_of_beq (beq_byte _ 126 (by decide) _ h1)), Lib.extract_to_end]
        · rename_i h1
          rw [intL_rest_plus s.data.toList (by rw [headD_eq h0]; exact ne_of_beq_false (beq_byte _ 126 (by decide) _ (by simpa using h1))) Z.out]
    rcases h1 : ((s[0].toNat : Int) == 126) with _ | _
    all_goals
      go_enter Tryz.func20, Tryz.ntmps20
      go_upto_if 12 with (fail)
      go_cut [0] (fun s0 wx => w = wx ∧ ∃ t : ByteArray, s0 = .string t ∧ t.size ≤ 9223372036854775807 ∧ restL t.data.toList = intL s.data.toList)
      case first =>
        go_wp2_with fail
        go_meet
        have E1 := E.out
        rw [h1] at E1
        obtain ⟨t, ht, h2, h3⟩ := E1
        simp only [if_true, Bool.false_eq_true, if_false] at ht
        exact ⟨rfl, t, by rw [ht], h2, h3⟩
      case rest =>
        obtain ⟨rfl, t, rfl, ht, hR⟩ := hcut
        have R := Lib.hid hR
        clear hR
        rcases Nat.eq_zero_or_pos t.size with h0 | h0
        · have he := toList_zero h0
          have E := Lib.hid (show restL t.data.toList = false by
            rw [Lib.toList_data] at he; rw [he]; rfl)
          clear h0
          go_wp2_with fail
          go_ret
          exact ⟨by rw [← R.out, E.out]; rfl, rfl⟩
        · have he := isEmpty_pos h0
          by_cases h18 : t.size ≤ 18
          · rcases h1 : ((t[0].toNat : Int) == 48) with _ | _
            · have E1 := Lib.hid (beq_byte _ 48 (by decide) _ h1)
              go_wp2_with fail
              go_loop [29] (fun i => ∃ k : Nat, k ≤ t.size ∧ i = .int .i64 k ∧ (t.data.toList.take k).all diU = true) (fun i => t.size - (intOf i).toNat)
              case atStart => exact ⟨0, Nat.zero_le _, rfl, rfl⟩
              case round =>
                obtain ⟨k, hk, rfl, hall⟩ := hrel
                have H := Lib.hid hall
                clear hall
                by_cases hlt : k < t.size
                · rcases hb : diB (t[k].toNat : Int) with _ | _
                  · go_wp2_with (go_at_call 40; refine (isDigit_any _ _).mono ?_; rintro e w' ⟨rfl, rfl⟩)
                    go_ret
                    exact ⟨by rw [← R.out, restL, all_of_bad k hlt hb]; simp, rfl⟩
                  · go_wp2_with (go_at_call 40; refine (isDigit_any _ _).mono ?_; rintro e w' ⟨rfl, rfl⟩)
                    go_round
                    case rel => exact ⟨k + 1, by omega, by go_num, all_take_succ k hlt H.out hb⟩
                    case measure => simp [intOf]; omega
                · go_wp2_with fail
                  go_ret
                  refine ⟨?_, rfl⟩
                  have e1 : t.data.toList.isEmpty = false := by rw [← Lib.toList_data]; exact he
                  have e2 : t.data.toList.length ≤ 18 := by simpa using h18
                  have e3 : (t.data.toList.headD 0 == 48) = false := by rw [headD_eq h0]; exact E1.out
                  rw [← R.out, restL, all_take_end k hlt H.out, e1, e3, decide_eq_true e2]; rfl
            · have E1 := Lib.hid (beq_byte _ 48 (by decide) _ h1)
              have E := Lib.hid (show restL t.data.toList = false by
                have e3 : (t.data.toList.headD 0 == 48) = true := by rw [headD_eq h0]; exact E1.out
                rw [restL, e3]; simp)
              go_wp2_with fail
              go_ret
              exact ⟨by rw [← R.out, E.out]; rfl, rfl⟩
          · have E := Lib.hid (show restL t.data.toList = false by
              have e2 : ¬ t.data.toList.length ≤ 18 := by simpa using h18
              rw [restL, decide_eq_false e2]; simp)
            go_wp2_with fail
            go_ret
            exact ⟨by rw [← R.out, E.out]; rfl, rfl⟩
  · have E := Lib.hid (show intL s.data.toList = true by
      rw [Lib.toList_data] at hz; rw [eq_of_beq hz]; decide)
    go_enter Tryz.func20, Tryz.ntmps20
    go_wp2_with fail
    go_ret
    exact ⟨by rw [E.out]; rfl, rfl⟩
end Go.Proofs.YtnfmfofialoioaaGreatDoor
