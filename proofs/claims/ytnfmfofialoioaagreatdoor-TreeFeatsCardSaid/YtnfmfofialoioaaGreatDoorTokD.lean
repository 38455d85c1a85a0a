/-
  The document's own answers: is a word one of some, that stand with a space around each? Keys and signs.
-/
import Derived.Test.YtnfmfofialoioaaGreatDoorTokC
import Derived.Test.YtnfmfofialoioaaGreatDoorTokM
namespace Go.Proofs.YtnfmfofialoioaaGreatDoor
open Go.RowKit T

theorem occ_bytes (s l : ByteArray) (k : Nat) :
    ((l.extract k (k + s.size + 2)).toList == (({ data := #[32] } : ByteArray) ++ s ++ ({ data := #[32] } : ByteArray)).toList) = occL s.data.toList l.data.toList k := by
  unfold occL
  rw [Lib.toList_data, Lib.toList_data]
  have e1 : (l.extract k (k + s.size + 2)).data.toList = (l.data.toList.drop k).take (s.data.toList.length + 2) := by
    have : s.data.toList.length = s.size := by simp
    rw [this]
    simp [ByteArray.data_extract, Array.toList_extract, List.extract_eq_take_drop]
    congr 1; omega
  rw [e1]
  congr 1
theorem no32_of {s : ByteArray} (h : s.data.toList.all (fun c => !(c == 32)) = true) : ∀ c ∈ s.data.toList, c ≠ 32 := by
  intro c hc e
  have := List.all_eq_true.1 h c hc
  simp [e] at this
theorem is32 (c : UInt8) (b : Bool) (h : ((c.toNat : Int) == 32) = b) : (c == 32) = b := by
  rw [← h]
  rw [Bool.eq_iff_iff]
  simp [← UInt8.toNat_inj]
  omega

set_option maxHeartbeats 400000 in
theorem among_any (s l : ByteArray) (ws : List (List UInt8)) (w : World) (hs : s.size ≤ 1000000) (hl : l.size ≤ 1000000) (hws : l.data.toList = sp ws) (hok : ∀ w ∈ ws, ∀ c ∈ w, c ≠ 32) (hne : ∀ w ∈ ws, w ≠ []) :
    Calls Tryz.prog 70 #[.string s, .string l] w fun e w' => e = .returned (.bool (decide (s.toList ∈ ws))) ∧ w = w' := by
  have W := Lib.hid hws
  have O := Lib.hid hok
  have N := Lib.hid hne
  clear hws hok hne
  rw [Lib.toList_data]
  go_enter Tryz.func70, Tryz.ntmps70
  go_wp2
  go_loop [5] (fun i => ∃ k : Nat, k ≤ s.size ∧ i = .int .i64 k ∧ (s.data.toList.take k).all (fun c => !(c == 32)) = true) (fun i => s.size - (intOf i).toNat)
  case atStart => exact ⟨0, Nat.zero_le _, rfl, rfl⟩
  case round =>
    obtain ⟨k, hk, rfl, hall⟩ := hrel
    have H := Lib.hid hall
    clear hall
    by_cases hlt : k < s.size
    · rcases hb : ((s[k].toNat : Int) == 32) with _ | _
      · have B := Lib.hid (is32 _ _ hb)
        go_wp2
        go_round
        case rel => exact ⟨k + 1, by omega, by go_num, all_take_succ k hlt H.out (by rw [B.out]; rfl)⟩
        case measure => simp [intOf]; omega
      · have B := Lib.hid (is32 _ _ hb)
        go_wp2
        go_ret
        refine ⟨?_, rfl⟩
        have hn : s.data.toList ∉ ws := fun h => by
          have hk' : k < s.data.toList.length := by simpa using hlt
          have := O.out _ h (s.data.toList[k]) (List.getElem_mem hk')
          apply this
          have e2 : s.data.toList[k] = s[k] := by simp [ByteArray.getElem_eq_getElem_data]
          rw [e2]; exact eq_of_beq B.out
        rw [decide_eq_false hn]; rfl
    · obtain rfl : k = s.size := by omega
      have H := Lib.hid (no32_of (all_take_end s.size hlt H.out))
      go_wp2
      go_loop [6] (fun i => ∃ k : Nat, k ≤ l.size ∧ i = .int .i64 k ∧ (s.size = 0 ∨ ∀ j, j < k → occL s.data.toList l.data.toList j = false)) (fun i => l.size - (intOf i).toNat)
      case atStart => exact ⟨0, Nat.zero_le _, rfl, .inr fun j hj => absurd hj (by omega)⟩
      case round =>
        obtain ⟨k, hk, rfl, hno⟩ := hrel
        have N1 := Lib.hid hno
        clear hno
        by_cases hlt : k + s.size + 2 ≤ l.size
        · rcases Nat.eq_zero_or_pos s.size with h0 | h0
          · have hz := toList_zero h0
            have h0' := Lib.hid h0
            clear h0
            go_wp2
            go_round
            case rel => exact ⟨k + 1, by omega, by go_num, .inl h0'.out⟩
            case measure => simp [intOf]; omega
          · have hz := isEmpty_pos h0
            rcases hb : ((l.extract k (k + s.size + 2)).toList == (({ data := #[32] } : ByteArray) ++ s ++ ({ data := #[32] } : ByteArray)).toList) with _ | _
            · have B := Lib.hid ((occ_bytes s l k).symm.trans hb)
              go_wp2
              go_round
              case rel =>
                refine ⟨k + 1, by omega, by go_num, .inr fun j hj => ?_⟩
                rcases N1.out with h | h
                · omega
                · rcases Nat.lt_or_ge j k with hjk | hjk
                  · exact h j hjk
                  · obtain rfl : j = k := by omega
                    exact B.out
              case measure => simp [intOf]; omega
            · have B := Lib.hid ((occ_bytes s l k).symm.trans hb)
              go_wp2
              go_ret
              refine ⟨?_, rfl⟩
              have := B.out
              rw [W.out] at this
              rw [decide_eq_true (mem_of_occ _ H.out ws O.out k this)]; rfl
        · go_wp2
          go_ret
          refine ⟨?_, rfl⟩
          have hn : s.data.toList ∉ ws := fun h => by
            rcases N1.out with h1 | h1
            · exact N.out _ h (List.eq_nil_of_length_eq_zero (by simpa using h1))
            · obtain ⟨j, h2, h3⟩ := occ_of_mem _ _ h
              rw [← W.out] at h2 h3
              have e1 : s.data.toList.length = s.size := by simp
              have e2 : l.data.toList.length = l.size := by simp
              have := h1 j (by omega)
              rw [this] at h3
              cases h3
          rw [decide_eq_false hn]; rfl

set_option maxHeartbeats 400000 in
theorem isKey_r_any (s : ByteArray) (w : World) (hs : s.size ≤ 1000000) :
    Calls Tryz.prog 44 #[.string s] w fun e w' => e = .returned (.bool (keyL s.toList)) ∧ w = w' := by
  have F := Lib.hid (keyL_mem s.toList)
  go_enter Tryz.func44, Tryz.ntmps44
  go_wp2_with (go_at_call 70; refine (among_any _ _ keys _ hs (by decide +kernel) (by decide +kernel) keys_ok keys_ne).mono ?_; rintro e w' ⟨rfl, rfl⟩)
  go_ret
  exact ⟨by rw [F.out]; rfl, rfl⟩

set_option maxHeartbeats 400000 in
theorem isSign_r_any (s : ByteArray) (w : World) (hs : s.size ≤ 1000000) :
    Calls Tryz.prog 45 #[.string s] w fun e w' => e = .returned (.bool (signL s.toList)) ∧ w = w' := by
  have F := Lib.hid (signL_mem s.toList)
  go_enter Tryz.func45, Tryz.ntmps45
  go_wp2_with (go_at_call 70; refine (among_any _ _ signs _ hs (by decide +kernel) (by decide +kernel) signs_ok signs_ne).mono ?_; rintro e w' ⟨rfl, rfl⟩)
  go_ret
  exact ⟨by rw [F.out]; rfl, rfl⟩
end Go.Proofs.YtnfmfofialoioaaGreatDoor
