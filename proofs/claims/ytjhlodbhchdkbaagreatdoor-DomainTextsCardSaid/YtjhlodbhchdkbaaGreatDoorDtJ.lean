/-
  A domain's text: of the document.
-/
import Derived.Test.YtjhlodbhchdkbaaGreatDoorDtI
namespace Go.Proofs.YtjhlodbhchdkbaaGreatDoor
set_option linter.unusedSimpArgs false
set_option linter.unusedVariables false
open Go Go.RowKit Go.Lib Go.Ev

set_option maxRecDepth 100000 in
set_option maxHeartbeats 8000000 in
theorem Text_r_any (d : List (Int × Int)) (A : Option Addr) (c : Nat) (w : World) (ha : Pairs w A d) :
    Calls Tryz.prog 6 #[.slice A d.length c] w (TextRes d w) := by
  obtain ⟨R, hR⟩ : ∃ R, vd 0 d = R := ⟨_, rfl⟩
  have VP := Valid_r_any d A c w ha
  rw [hR] at VP
  have VP := Lib.hid VP
  cases R with
  | false =>
    have HR := Lib.hid hR
    clear hR
    go_enter Tryz.func6, Tryz.ntmps6
    go_wp2_with (go_at_call 16; refine VP.out.mono ?_; rintro e w1 ⟨rfl, hb1⟩; have HB1 := Lib.hid hb1; clear hb1 VP)
    go_ret2
    unfold TextRes
    rw [HR.out]
    exact ⟨rfl, HB1.out⟩
  | true =>
    by_cases h0 : d = []
    · subst h0
      go_enter Tryz.func6, Tryz.ntmps6
      go_wp2_with (go_at_call 16; refine VP.out.mono ?_; rintro e w1 ⟨rfl, hb1⟩; have HB1 := Lib.hid hb1; clear hb1 VP)
      go_ret2
      exact ⟨rfl, HB1.out⟩
    · have hl : 0 < d.length := List.length_pos_iff.2 h0
      have z0 : ¬ ((d.length : Int) = 0) := by omega
      have zb : ((d.length : Int) == 0) = false := by rw [beq_eq_false_iff_ne]; exact z0
      have hdl : d.length ≤ 1000000 := ha.1
      have HI := Lib.hid (vd_inR d 0 (by decide) hR)
      have HA0 := Lib.hid ha
      have HR := Lib.hid hR
      clear hR ha
      go_enter Tryz.func6, Tryz.ntmps6
      go_upto_region 7 with (go_at_call 16; refine VP.out.mono ?_; rintro e w1 ⟨rfl, hb1⟩; have HB1 := Lib.hid hb1; clear hb1 VP)
      have HA := Lib.hid (HA0.out.over HB1.out)
      clear HA0
      go_loopw [4, 5] (fun s i wr => ∃ k : Nat, k ≤ d.length ∧ s = .string (st (jnT (d.take k))) ∧ i = .int .i64 k ∧ Below w1.heap.size w1 wr) (fun _ i _ => d.length - (RowKit.intOf i).toNat)
      case atStart => exact ⟨0, Nat.zero_le _, rfl, rfl, Below.refl _ _⟩
      case round =>
        obtain ⟨k, hk, rfl, rfl, hbw⟩ := hrel
        have HW := Lib.hid hbw
        clear hbw
        obtain ⟨W, rfl⟩ : ∃ x, x = wr := ⟨_, rfl⟩
        by_cases hlt : k < d.length
        · obtain ⟨b1, o1, rfl, hb1', g1⟩ := HA.out.2.2 hl
          have x1 := (HW.out.cell (p := ⟨b1, o1 + k * 2, none⟩) hb1').trans (g1 k hlt).1
          have x2 := (HW.out.cell (p := ⟨b1, o1 + k * 2 + 1, none⟩) hb1').trans (g1 k hlt).2
          have hr := HI.out _ (List.getElem_mem hlt)
          have hst := fun (n m : Nat) => jnT_step d k hlt n m
          have hG := Lib.hid (g1 k hlt)
          clear g1
          generalize d[k] = p at *
          obtain ⟨pa, pb⟩ := p
          obtain ⟨r1, r2, r3⟩ := hr
          simp only at x1 x2 r1 r2 r3 hst
          obtain ⟨n, rfl⟩ : ∃ n : Nat, pa = (n : Int) := ⟨pa.toNat, by omega⟩
          obtain ⟨m, rfl⟩ : ∃ m : Nat, pb = (m : Int) := ⟨pb.toNat, by omega⟩
          have HS := Lib.hid (show jnT (d.take (k + 1)) = jnT (d.take k) ++ ((if k = 0 then [] else [32]) ++ (dec n ++ if n < m then 35 :: dec m else [])) from hst n m rfl)
          clear hst
          have z3 : (k : Int) < (d.length : Int) := by omega
          have z4 : (0 : Int) ≤ (k : Int) := by omega
          have hn : n ≤ 1000 := by omega
          have hm : m ≤ 1000 := by omega
          have ln := Lib.hid (dec_len n)
          have lm := Lib.hid (dec_len m)
          have L0 := Lib.hid (show (jnT (d.take k)).length ≤ 12000000 from by have h1 := jnT_len (d.take k); rw [List.length_take] at h1; omega)
          by_cases hk0 : k = 0
          · have HT := Lib.hid (show jnT (d.take (k + 1)) = jnT (d.take k) ++ ([] ++ (dec n ++ if n < m then 35 :: dec m else [])) from by rw [HS.out, if_pos hk0])
            have z6 : ¬ (0 : Int) < (k : Int) := by omega
            have z7 : ¬ 0 < k := by omega
            clear HS
            clear hk0
            go_upto_region 11 with fail
            have LP := Lib.hid (show (jnT (d.take k)).length ≤ 12000001 from by have := L0.out; omega)
            have hz2 : ¬ 9223372036854775807 < (st (jnT (d.take k))).size + (st (dec n)).size := by rw [st_size, st_size]; have := LP.out; have := ln.out; omega
            go_upto_region 12 with (go_at_call 17; refine (dec_any hn _).mono ?_; rintro e X1 ⟨rfl, hh⟩; have HW1 := Lib.hid (HW.out.trans (hh.mono HW.out.size)); clear hh x1 x2)
            rw [← st_append]
            have x1 := (HW1.out.cell (p := ⟨b1, o1 + k * 2, none⟩) hb1').trans hG.out.1
            have x2 := (HW1.out.cell (p := ⟨b1, o1 + k * 2 + 1, none⟩) hb1').trans hG.out.2
            by_cases hnm : n < m
            · have HU := Lib.hid (show jnT (d.take (k + 1)) = jnT (d.take k) ++ dec n ++ (35 :: dec m) from by rw [HT.out, if_pos hnm]; simp)
              have z8 : (n : Int) < (m : Int) := by omega
              have LQ := Lib.hid (show (jnT (d.take k) ++ dec n).length ≤ 12000010 from by have := LP.out; have := ln.out; rw [List.length_append]; omega)
              clear hz2 HT LP
              generalize jnT (d.take k) ++ dec n = q at *
              go_region
              have HW1 := Lib.hid HW1.out.drew
              have hz3 : ¬ 9223372036854775807 < 1 + (st (dec m)).size := by rw [st_size]; have := lm.out; omega
              have hs1 := Lib.hid (show (⟨#[35]⟩ : ByteArray) ++ st (dec m) = st (35 :: dec m) from (st_append [35] (dec m)).symm)
              have hz4 : ¬ 9223372036854775807 < (st q).size + ((⟨#[35]⟩ : ByteArray) ++ st (dec m)).size := by rw [hs1.out, st_size, st_size]; have := LQ.out; have := lm.out; rw [List.length_cons]; omega
              have hz5 : ¬ 9223372036854775807 < (st q).size + (1 + (st (dec m)).size) := by rw [st_size, st_size]; have := LQ.out; have := lm.out; omega
              go_wp2_with (go_at_call 17; refine (dec_any hm _).mono ?_; rintro e X2 ⟨rfl, hh⟩; have HW2 := Lib.hid (HW1.out.trans (hh.mono HW1.out.size)); clear hh x1 x2)
              go_roundw
              case rel => exact ⟨k + 1, by omega, by rw [HU.out, hs1.out, ← st_append], by go_num, HW2.out⟩
              case measure => simp [RowKit.intOf]; omega
            · have HU := Lib.hid (show jnT (d.take (k + 1)) = jnT (d.take k) ++ dec n from by rw [HT.out, if_neg hnm]; simp)
              have z8 : ¬ (n : Int) < (m : Int) := by omega
              have LQ := Lib.hid (show (jnT (d.take k) ++ dec n).length ≤ 12000010 from by have := LP.out; have := ln.out; rw [List.length_append]; omega)
              clear hz2 HT LP
              generalize jnT (d.take k) ++ dec n = q at *
              go_region
              have HW1 := Lib.hid HW1.out.drew
              go_wp2_with fail
              go_roundw
              case rel => exact ⟨k + 1, by omega, by rw [HU.out], by go_num, HW1.out⟩
              case measure => simp [RowKit.intOf]; omega
          · have HT := Lib.hid (show jnT (d.take (k + 1)) = jnT (d.take k) ++ ([32] ++ (dec n ++ if n < m then 35 :: dec m else [])) from by rw [HS.out, if_neg hk0])
            have z6 : (0 : Int) < (k : Int) := by omega
            have z7 : 0 < k := by omega
            clear HS
            have hz1 : ¬ 9223372036854775807 < (st (jnT (d.take k))).size + 1 := by rw [st_size]; have := L0.out; omega
            go_upto_region 11 with fail
            have es1 := Lib.hid (show st (jnT (d.take k)) ++ (⟨#[32]⟩ : ByteArray) = st (jnT (d.take k) ++ [32]) from (st_append _ [32]).symm)
            rw [es1.out]
            have LP := Lib.hid (show (jnT (d.take k) ++ [32]).length ≤ 12000001 from by have := L0.out; simp only [List.length_append, List.length_cons, List.length_nil]; omega)
            have hz2 : ¬ 9223372036854775807 < (st (jnT (d.take k) ++ [32])).size + (st (dec n)).size := by rw [st_size, st_size]; have := LP.out; have := ln.out; omega
            go_upto_region 12 with (go_at_call 17; refine (dec_any hn _).mono ?_; rintro e X1 ⟨rfl, hh⟩; have HW1 := Lib.hid (HW.out.trans (hh.mono HW.out.size)); clear hh x1 x2)
            rw [← st_append]
            have x1 := (HW1.out.cell (p := ⟨b1, o1 + k * 2, none⟩) hb1').trans hG.out.1
            have x2 := (HW1.out.cell (p := ⟨b1, o1 + k * 2 + 1, none⟩) hb1').trans hG.out.2
            by_cases hnm : n < m
            · have HU := Lib.hid (show jnT (d.take (k + 1)) = jnT (d.take k) ++ [32] ++ dec n ++ (35 :: dec m) from by rw [HT.out, if_pos hnm]; simp)
              have z8 : (n : Int) < (m : Int) := by omega
              have LQ := Lib.hid (show (jnT (d.take k) ++ [32] ++ dec n).length ≤ 12000010 from by have := LP.out; have := ln.out; rw [List.length_append]; omega)
              clear hz2 HT LP
              generalize jnT (d.take k) ++ [32] ++ dec n = q at *
              go_region
              have HW1 := Lib.hid HW1.out.drew
              have hz3 : ¬ 9223372036854775807 < 1 + (st (dec m)).size := by rw [st_size]; have := lm.out; omega
              have hs1 := Lib.hid (show (⟨#[35]⟩ : ByteArray) ++ st (dec m) = st (35 :: dec m) from (st_append [35] (dec m)).symm)
              have hz4 : ¬ 9223372036854775807 < (st q).size + ((⟨#[35]⟩ : ByteArray) ++ st (dec m)).size := by rw [hs1.out, st_size, st_size]; have := LQ.out; have := lm.out; rw [List.length_cons]; omega
              have hz5 : ¬ 9223372036854775807 < (st q).size + (1 + (st (dec m)).size) := by rw [st_size, st_size]; have := LQ.out; have := lm.out; omega
              go_wp2_with (go_at_call 17; refine (dec_any hm _).mono ?_; rintro e X2 ⟨rfl, hh⟩; have HW2 := Lib.hid (HW1.out.trans (hh.mono HW1.out.size)); clear hh x1 x2)
              go_roundw
              case rel => exact ⟨k + 1, by omega, by rw [HU.out, hs1.out, ← st_append], by go_num, HW2.out⟩
              case measure => simp [RowKit.intOf]; omega
            · have HU := Lib.hid (show jnT (d.take (k + 1)) = jnT (d.take k) ++ [32] ++ dec n from by rw [HT.out, if_neg hnm]; simp)
              have z8 : ¬ (n : Int) < (m : Int) := by omega
              have LQ := Lib.hid (show (jnT (d.take k) ++ [32] ++ dec n).length ≤ 12000010 from by have := LP.out; have := ln.out; rw [List.length_append]; omega)
              clear hz2 HT LP
              generalize jnT (d.take k) ++ [32] ++ dec n = q at *
              go_region
              have HW1 := Lib.hid HW1.out.drew
              go_wp2_with fail
              go_roundw
              case rel => exact ⟨k + 1, by omega, by rw [HU.out], by go_num, HW1.out⟩
              case measure => simp [RowKit.intOf]; omega
        · obtain rfl : k = d.length := by omega
          have HT := Lib.hid (show d.take d.length = d from List.take_length)
          go_wp2_with fail
          go_ret2
          unfold TextRes
          rw [HR.out, HT.out]
          refine ⟨?_, HB1.out.trans (HW.out.mono HB1.out.size)⟩
          rw [if_pos rfl, show txD d = jnT d from by unfold txD; rw [if_neg h0]]
          rfl
end Go.Proofs.YtjhlodbhchdkbaaGreatDoor
