/-
  Two lists of tokens are alike, but for their places; joined sources, the document's own answer.
-/
import Derived.Test.YtjiihfdbdbhhaaaTokJs
namespace Go.Proofs.Ytjiihfdbdbhhaaa
open Go.RowKit T

/-- kinds and texts of the tokens that a slice holds -/
def AlTk (w : World) (A : Option Addr) (kt : List (ByteArray × ByteArray)) : Prop :=
  0 < kt.length → ∃ b off : Nat, A = some ⟨b, off, none⟩ ∧ ∀ j (hj : j < kt.length),
    w.cell? ⟨b, off + j * 3, none⟩ = some (.string kt[j].1) ∧ w.cell? ⟨b, off + j * 3 + 1, none⟩ = some (.string kt[j].2)

set_option maxHeartbeats 2000000 in
theorem Alike_any (A1 A2 : Option Addr) (c1 c2 n : Nat) (kt : List (ByteArray × ByteArray)) (w : World) (hn : kt.length = n) (hm : n ≤ 100000) (h1 : AlTk w A1 kt) (h2 : AlTk w A2 kt) :
    Calls Try.prog 22 #[.slice A1 n c1, .slice A2 n c2] w fun e w' => e = .returned (.bool true) ∧ ∃ d, w' = w.drewN d := by
  have HN := Lib.hid hn
  clear hn
  go_enter Try.func22, Try.ntmps22
  go_wp2_with fail
  go_loopw [5] (fun i wr => ∃ k d : Nat, k ≤ n ∧ i = .int .i64 k ∧ wr = w.drewN d) (fun i _ => n - (intOf i).toNat)
  case atStart => exact ⟨0, 0, Nat.zero_le _, rfl, rfl⟩
  case round =>
    obtain ⟨k, d, hk, rfl, rfl⟩ := hrel
    by_cases hlt : k < n
    · obtain ⟨g1, o1, rfl, hc1⟩ := h1 (by rw [HN.out]; omega)
      obtain ⟨g2, o2, rfl, hc2⟩ := h2 (by rw [HN.out]; omega)
      have hlk : k < kt.length := by rw [HN.out]; exact hlt
      obtain ⟨a0, a1⟩ := hc1 k hlk
      obtain ⟨b0, b1⟩ := hc2 k hlk
      clear hc1 hc2
      generalize kt[k] = tk at *
      clear hlk
      have z1 : (0 : Int) ≤ (k : Int) := by omega
      have z2 : (k : Int) < (n : Int) := by omega
      go_wp2_with fail
      go_quiet (fail)
      go_wp2_with fail
      go_roundw
      case rel => exact ⟨k + 1, _, by omega, by go_num, rfl⟩
      case measure => simp [intOf]; omega
    · go_wp2_with fail
      go_ret
      exact ⟨rfl, _, rfl⟩

set_option maxHeartbeats 4000000 in
theorem Join_r_any (A : Option Addr) (n c : Nat) (ks : List (ByteArray × ByteArray × Int)) (w : World) (hn : ks.length = n) (hsm : Small ks) (h : ArgTk w A ks) :
    Calls Try.prog 21 #[.slice A n c] w fun e w' => e = .returned (joinV ks) ∧ Below w.heap.size w w' := by
  have hn3 : n ≤ 300 := by rw [← hn]; exact hsm.1
  have HN := Lib.hid hn
  clear hn
  go_enter Try.func21, Try.ntmps21
  go_wp2_with fail
  go_loopw [4, 5] (fun o i wr => ∃ (k : Nat) (T : ByteArray), k ≤ n ∧ i = .int .i64 k ∧ o = .string T ∧ T.data.toList = joinL (ks.take k) ∧ (ks.take k).all okOf = true ∧ Below w.heap.size w wr) (fun _ i _ => n - (intOf i).toNat)
  case atStart => exact ⟨0, ⟨#[]⟩, Nat.zero_le _, rfl, rfl, rfl, rfl, Below.refl _ _⟩
  case round =>
    obtain ⟨k, T, hk, rfl, rfl, hT, hall, hb⟩ := hrel
    have HA := Lib.hid hall
    have hTs := size_list hT
    have HT := Lib.hid hT
    have hsz := hb.size
    clear hall hT
    by_cases hlt : k < n
    · obtain ⟨b, off, rfl, hab, hc⟩ := h (by rw [HN.out]; omega)
      have hlk : k < ks.length := by rw [HN.out]; exact hlt
      obtain ⟨c0, c1, c2⟩ := hc k hlk
      have c0 := (hb.cell (p := ⟨b, off + k * 3, none⟩) hab).trans c0
      have c1 := (hb.cell (p := ⟨b, off + k * 3 + 1, none⟩) hab).trans c1
      have c2 := (hb.cell (p := ⟨b, off + k * 3 + 2, none⟩) hab).trans c2
      have HK := all_take1 (p := okOf) hlk
      have HF := fun (hx : okOf ks[k] = false) => all_bad1 (p := okOf) hlk hx
      have HJ := joinL_step hlk
      have hjl := joinL_le hsm k (by omega)
      have h400 := hsm.2 ks[k] (List.getElem_mem _)
      have hsl := textL_le ks[k].1.toList ks[k].2.1
      have TC := fun wx => Text_r_any ks[k].1 ks[k].2.1 ks[k].2.2 wx (by omega)
      clear hc
      generalize ks[k] = tk at *
      have HK := Lib.hid HK
      have HJ := Lib.hid HJ
      clear hlk
      have hTs2 : T.size ≤ 804 * k := by omega
      clear hTs
      rcases hv : okOf tk with _ | _
      · have F := Lib.hid (show joinV ks = .tuple #[.string ⟨#[]⟩, .int .i64 10] by
          unfold joinV; rw [HF hv]; rfl)
        rw [textV_no hv] at TC
        have TC := Lib.hid TC
        clear HF hv
        go_wp2_with fail
        refine (TC.out _).mono ?_
        rintro e w1 ⟨rfl, hb1⟩
        go_wp2_with fail
        go_ret2
        exact ⟨by rw [F.out]; rfl, hb.trans (hb1.mono hsz)⟩
      · rw [textV_ok hv] at TC
        have TC := Lib.hid TC
        have HV := Lib.hid hv
        have hsrc : (srcOf tk).length ≤ 803 := by unfold srcOf; omega
        have hsl2 : ((⟨(srcOf tk).toArray⟩ : ByteArray)).size ≤ 803 := by show (srcOf tk).toArray.size ≤ _; simpa using hsrc
        clear HF hv hsl h400
        rcases Nat.eq_zero_or_pos k with h0 | h0
        · have z : ¬ (0 < (k : Int)) := by omega
          have HJ0 := HJ.out
          rw [if_pos h0, List.append_nil] at HJ0
          have HJ0 := Lib.hid HJ0
          clear h0
          generalize srcOf tk = sx at *
          go_wp2_with fail
          refine (TC.out _).mono ?_
          rintro e w1 ⟨rfl, hb1⟩
          go_wp2_with fail
          go_roundw
          case rel => exact ⟨k + 1, _, by omega, by go_num, rfl, by rw [HJ0.out]; simp [HT.out], by rw [HK.out, HA.out, HV.out]; rfl, hb.trans (hb1.mono hsz)⟩
          case measure => simp [intOf]; omega
        · have z : 0 < (k : Int) := by omega
          have HJ0 := HJ.out
          rw [if_neg (by omega)] at HJ0
          have HJ0 := Lib.hid HJ0
          generalize srcOf tk = sx at *
          have hT1 : (T ++ ({ data := #[32] } : ByteArray)).size ≤ 804 * k + 1 := by
            have e : ({ data := #[32] } : ByteArray).size = 1 := rfl
            rw [ByteArray.size_append, e]; omega
          go_wp2_with fail
          refine (TC.out _).mono ?_
          rintro e w1 ⟨rfl, hb1⟩
          go_wp2_with fail
          go_roundw
          case rel => exact ⟨k + 1, _, by omega, by go_num, rfl, by rw [HJ0.out]; simp [HT.out], by rw [HK.out, HA.out, HV.out]; rfl, hb.trans (hb1.mono hsz)⟩
          case measure => simp [intOf]; omega
    · have ht : ks.take k = ks := List.take_of_length_le (by rw [HN.out]; omega)
      have hA2 := HA.out
      have hT2 := HT.out
      rw [ht] at hA2 hT2
      have F := Lib.hid (show joinV ks = .tuple #[.string T, .int .i64 0] by
        unfold joinV; rw [hA2, mk_list hT2]; rfl)
      clear ht hA2 hT2
      go_wp2_with fail
      go_ret2
      exact ⟨by rw [F.out]; rfl, hb⟩
end Go.Proofs.Ytjiihfdbdbhhaaa
