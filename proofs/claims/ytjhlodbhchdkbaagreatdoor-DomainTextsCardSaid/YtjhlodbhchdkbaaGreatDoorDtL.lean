/-
  Reading a domain's text: the document's Parse, exactly.
-/
import Derived.Deep.Cut
import Derived.Test.YtjhlodbhchdkbaaGreatDoorDtK
namespace Go.Proofs.YtjhlodbhchdkbaaGreatDoor
set_option linter.unusedSimpArgs false
set_option linter.unusedVariables false
open Go Go.RowKit Go.Lib Go.Ev

theorem cellsI_get : ∀ (d : List (Int × Int)) (i : Nat) (h : i < d.length), (cellsI d)[i * 2]? = some (.int .i64 d[i].1) ∧ (cellsI d)[i * 2 + 1]? = some (.int .i64 d[i].2)
  | x :: r, 0, _ => ⟨rfl, rfl⟩
  | x :: r, i + 1, h => by
    obtain ⟨h1, h2⟩ := cellsI_get r i (by simpa using h)
    rw [show (i + 1) * 2 = i * 2 + 1 + 1 by omega]
    refine ⟨?_, ?_⟩
    · show (cellsI r)[i * 2]? = _
      rw [h1]; rfl
    · show (cellsI r)[i * 2 + 1]? = _
      rw [h2]; rfl
/-- a row of ranges of one's own, as a slice -/
theorem pairs_of_owns {W : World} {base : Nat} {v : Value} {d : List (Int × Int)} (h : W.ownsRow base 38 2 v d.length (cellsI d)) (hl : d.length ≤ 1000000)
    (hr : ∀ x ∈ d, (-9223372036854775808 ≤ x.1 ∧ x.1 ≤ 9223372036854775807) ∧ -9223372036854775808 ≤ x.2 ∧ x.2 ≤ 9223372036854775807) : ∃ G cap, v = .slice G d.length cap ∧ Pairs W G d := by
  obtain ⟨h1, h2⟩ := h
  rcases h2 with ⟨h0, hz⟩ | ⟨g, cap, cur, hv, hb, hg, hc, hm, hs, ht⟩
  · exact ⟨none, 0, by rw [h0, hz], ⟨hl, hr, fun hp => by omega⟩⟩
  · refine ⟨_, cap, hv, ⟨hl, hr, fun _ => ⟨g, 0, rfl, (Array.getElem?_eq_some_iff.1 hg).1, fun i hi => ?_⟩⟩⟩
    obtain ⟨e1, e2⟩ := cellsI_get d i hi
    rw [← ht, List.getElem?_take, if_pos (by omega)] at e1 e2
    simp only [World.cell?, hg]
    exact ⟨by simpa using e1, by simpa using e2⟩
theorem bytes_eqX {a b : ByteArray} : (a.toList == b.toList) = decide (a.data.toList = b.data.toList) := by
  rw [ByteArray.toList_eq, ByteArray.toList_eq]
  by_cases h : a.data.toList = b.data.toList
  · rw [h]; simp
  · rw [decide_eq_false h, beq_eq_false_iff_ne]; exact h
def In10 (x : Int × Int) : Prop := (0 ≤ x.1 ∧ x.1 ≤ 10009) ∧ 0 ≤ x.2 ∧ x.2 ≤ 10009
theorem hiD_rng (a : Int × List UInt8) (h : 0 ≤ a.1 ∧ a.1 ≤ 10009) : 0 ≤ (hiD a).1 ∧ (hiD a).1 ≤ 10009 := by
  unfold hiD
  split
  · exact nmD_rng _ _ (by omega)
  · exact h
theorem head_drop (s : ByteArray) (k : Nat) : (s.data.toList.drop k).head? = if h : k < s.size then some s[k] else none := by
  by_cases h : k < s.size
  · rw [drop_byte s k h, dif_pos h]; rfl
  · rw [dif_neg h, List.drop_of_length_le (by simp; omega)]; rfl
theorem tail_drop (l : List UInt8) (k : Nat) : (l.drop k).tail = l.drop (k + 1) := by rw [List.tail_drop]
set_option maxRecDepth 100000 in
set_option maxHeartbeats 16000000 in
theorem ParseD_any (s : ByteArray) (hs : s.size ≤ 999000) (w : World) :
    Calls Tryz.prog 8 #[.string s] w (ParseRes (parseD s.data.toList) w.heap.size w) := by
  obtain ⟨i0, hif, hz0, hz1, hz2⟩ := info_parts infoP
  by_cases hd : s.data.toList = [45]
  · have zb : (s.toList == [45]) = true := by rw [ByteArray.toList_eq, hd]; rfl
    have PZ := Lib.hid (show parseD s.data.toList = some [] from by unfold parseD; rw [if_pos hd])
    clear hd
    go_enter Tryz.func8, Tryz.ntmps8
    go_wp2_with fail
    go_ret2
    rw [PZ.out]
    exact ⟨⟨_, rfl, World.ownsRow_nil _ _ _ _⟩, Below.refl _ _⟩
  · have zb : (s.toList == [45]) = false := by rw [ByteArray.toList_eq, beq_eq_false_iff_ne]; exact hd
    obtain ⟨R, hR⟩ : ∃ R, rdD (s.data.toList.length + 1) s.data.toList = R := ⟨_, rfl⟩
    have PZ := Lib.hid (show parseD s.data.toList = if vd 0 R = true ∧ txD R = s.data.toList then some R else none from by unfold parseD; rw [if_neg hd, hR])
    have HR := Lib.hid hR
    clear hd hR
    go_enter Tryz.func8, Tryz.ntmps8
    go_upto_region 5 with fail
    go_loopw [4, 5] (fun v i wr => ∃ (a : Nat) (acc : List (Int × Int)) (f : Nat), a ≤ s.size ∧ i = .int .i64 (a : Int) ∧ acc.length ≤ a ∧ (∀ x ∈ acc, In10 x) ∧ wr.ownsRow w.heap.size 38 2 v acc.length (cellsI acc) ∧ acc ++ rdD (f + 1) (s.data.toList.drop a) = R ∧ s.size ≤ f + a ∧ Below w.heap.size w wr) (fun _ i _ => s.size - (RowKit.intOf i).toNat)
    case atStart => exact ⟨0, [], s.data.toList.length, Nat.zero_le _, rfl, Nat.le_refl _, fun x h => (by cases h), World.ownsRow_nil _ _ _ _, HR.out, by simp, Below.refl _ _⟩
    case round =>
      obtain ⟨a, acc, f, ha, rfl, hal, hax, how, hrd, hf, hbw⟩ := hrel
      obtain ⟨W, rfl⟩ : ∃ x, x = wr := ⟨_, rfl⟩
      have OW := Lib.hid how
      have BW := Lib.hid hbw
      have AX := Lib.hid hax
      have RD := Lib.hid hrd
      have HF := Lib.hid hf
      have HAL := Lib.hid hal
      have HA := Lib.hid ha
      clear how hbw hax hrd hf hal ha HR
      have N1 := Lib.hid (fun w1 => number_any s a HA.out (by omega) w1)
      obtain ⟨X, hX⟩ : ∃ X, nmD 0 (s.data.toList.drop a) = X := ⟨_, rfl⟩
      have XR := Lib.hid (show 0 ≤ X.1 ∧ X.1 ≤ 10009 from by rw [← hX]; exact nmD_rng _ _ (by omega))
      rw [hX] at N1
      have RD := Lib.hid (show acc ++ ((X.1, (hiD X).1) :: (if (hiD X).2.head? = some 32 then rdD f (hiD X).2.tail else [])) = R from by have := RD.out; rw [rdD, hX] at this; exact this)
      clear hX
      obtain ⟨lo, q1⟩ := X
      go_upto_region 7 with (go_at_call 20; refine (N1.out _).mono ?_; rintro e W1 ⟨⟨z1, hz1a, hz1s, hq1, rfl⟩, hb⟩; have B1 := Lib.hid hb; have Q1 := Lib.hid hq1; clear hb hq1 N1)
      have BW1 := Lib.hid (BW.out.trans (B1.out.mono BW.out.size))
      have OW1 := Lib.hid (owns_belowX OW.out B1.out)
      clear BW OW B1
      have Q1' := Q1.out
      try simp only at Q1'
      subst Q1'
      clear Q1
      have HR2 := Lib.hid (hiD_rng (lo, s.data.toList.drop z1) XR.out)
      obtain ⟨Y, hY⟩ : ∃ Y, hiD (lo, s.data.toList.drop z1) = Y := ⟨_, rfl⟩
      rw [hY] at HR2 RD
      have HY := Lib.hid hY
      clear hY
      obtain ⟨hi, q2⟩ := Y
      have y0 : (0 : Int) ≤ (z1 : Int) := by omega
      obtain ⟨hash, hh⟩ : ∃ hash, decide ((s.data.toList.drop z1).head? = some 35) = hash := ⟨_, rfl⟩
      have HB := Lib.hid hh
      clear hh
      go_cut [29] from 20 to 28 (fun v wx => v = .bool hash ∧ wx = W1)
      case first =>
        by_cases hlt : z1 < s.size
        · have y1 : (z1 : Int) < (s.size : Int) := by omega
          by_cases h35 : s[z1].toNat = 35
          · have y2 : ((s[z1].toNat : Int) == 35) = true := by rw [h35]; rfl
            have E := Lib.hid (show hash = true from by rw [← HB.out, head_drop, dif_pos hlt, show s[z1] = 35 from UInt8.toNat_inj.1 h35]; exact decide_eq_true rfl)
            go_wp2_with fail
            go_meet
            exact ⟨by rw [E.out], rfl⟩
          · have y2 : ((s[z1].toNat : Int) == 35) = false := by rw [beq_eq_false_iff_ne]; omega
            have y3 : ¬ (s[z1].toNat : Int) = 35 := by omega
            have E := Lib.hid (show hash = false from by
              rw [← HB.out, head_drop, dif_pos hlt]
              exact decide_eq_false (fun h => by injection h with h; exact h35 (by rw [h]; rfl)))
            go_wp2_with fail
            go_meet
            exact ⟨by rw [E.out], rfl⟩
        · have y1 : ¬ (z1 : Int) < (s.size : Int) := by omega
          have E := Lib.hid (show hash = false from by rw [← HB.out, head_drop, dif_neg hlt]; rfl)
          go_wp2_with fail
          go_meet
          exact ⟨by rw [E.out], rfl⟩
      obtain ⟨rfl, hwx⟩ := hcut
      have hwx := hwx.symm
      subst hwx
      go_upto_if 29 with fail
      go_cut [7, 8] from 29 to 36 (fun e h wx => ∃ z2 : Nat, e = .int .i64 (z2 : Int) ∧ h = .int .i64 hi ∧ z1 ≤ z2 ∧ z2 ≤ s.size ∧ q2 = s.data.toList.drop z2 ∧ Below W1.heap.size W1 wx)
      case first =>
        cases hash with
        | true =>
          have hh := of_decide_eq_true HB.out
          have hlt : z1 < s.size := by
            rcases Nat.lt_or_ge z1 s.size with h | h
            · exact h
            · rw [head_drop, dif_neg (by omega)] at hh; cases hh
          have E := Lib.hid (show nmD 0 (s.data.toList.drop (z1 + 1)) = (hi, q2) from by
            have := HY.out
            unfold hiD at this
            rw [if_pos hh] at this
            rw [← tail_drop]
            exact this)
          have N2 := Lib.hid (fun w1 => number_any s (z1 + 1) (by omega) (by omega) w1)
          rw [E.out] at N2
          have e3 : ((z1 + 1 : Nat) : Int) = (z1 : Int) + 1 := by omega
          rw [e3] at N2
          clear e3 hh
          go_wp2_with (go_at_call 20; refine (N2.out _).mono ?_; rintro e W2 ⟨⟨z2, hz2a, hz2s, hq2, rfl⟩, hb⟩; have B2 := Lib.hid hb; have Q2 := Lib.hid hq2; clear hb hq2 N2)
          go_meet
          exact ⟨z2, rfl, rfl, by omega, hz2s, Q2.out, B2.out⟩
        | false =>
          have E := Lib.hid (show (lo, s.data.toList.drop z1) = (hi, q2) from by
            have := HY.out
            unfold hiD at this
            rw [if_neg (of_decide_eq_false HB.out)] at this
            exact this)
          go_wp2_with fail
          go_meet
          have e := E.out
          injection e with e1 e2
          exact ⟨z1, rfl, by rw [e1], Nat.le_refl _, hz1s, e2.symm, Below.refl _ _⟩
      case rest =>
        obtain ⟨z2, rfl, rfl, hz12, hz2s, rfl, hwx⟩ := hcut
        have BW2 := Lib.hid (BW1.out.trans (hwx.mono BW1.out.size))
        have OW2 := Lib.hid (owns_belowX OW1.out hwx)
        clear BW1 OW1 hwx
        have HZ := Lib.hid (show a ≤ z2 ∧ z2 ≤ s.size ∧ acc.length ≤ a from by have := HAL.out; omega)
        have ZA := Lib.hid (show acc.length + 1 ≤ maxLen ∧ (acc.length + 1) * 16 ≤ 140737488355328 from by have := HZ.out; unfold maxLen; omega)
        have y5 : (0 : Int) ≤ (z2 : Int) := by omega
        go_upto_region 10 with (at_builtin; refine wpList_append_own _ rfl _ _ 22 rfl w.heap.size 38 i0 (.agg #[.int .i64 0, .int .i64 0]) 2 16 Tryz.underlying22 hif hz0 hz1 hz2 rfl (by decide) _ acc.length (cellsI acc) (by go_simp) (OW2.out.alloc _) ⟨wc.heap.size, 0, none⟩ 1 1 [.int .i64 lo, .int .i64 hi] (by go_simp) rfl (two_at _ _ _ _) (two_one lo hi) ZA.out.1 ZA.out.2 (by have := BW2.out.size; simp; omega) ?_; intro v' w1 hown' hgrow _; obtain ⟨g', cap', rfl⟩ := ownsRow_succ hown'; have OW3 := Lib.hid hown'; have BW3 := Lib.hid ((BW2.out.alloc BW2.out.size (.cells #[.int .i64 lo, .int .i64 hi] 38)).grown hgrow (by have := BW2.out.size; simp; omega) (fun k hk => (OW2.out.lt k hk).1)); clear hown' hgrow)
        have OW3 := Lib.hid (show w1.ownsRow w.heap.size 38 2 (.slice (some ⟨g', 0, none⟩) (acc.length + 1) cap') (acc.length + 1) (cellsI (acc ++ [(lo, hi)])) from by rw [cellsI_snoc]; exact OW3.out)
        have AX2 := Lib.hid (show ∀ x ∈ acc ++ [(lo, hi)], In10 x from fun x hx => by
          rcases List.mem_append.1 hx with h | h
          · exact AX.out x h
          · obtain rfl := List.mem_singleton.1 h; exact ⟨XR.out, HR2.out⟩)
        clear AX XR OW2 BW2
        by_cases hlt : z2 < s.size
        · have y1 : (z2 : Int) < (s.size : Int) := by omega
          have y6 : ¬ (s.size : Int) ≤ (z2 : Int) := by omega
          have HH := Lib.hid (show (s.data.toList.drop z2).head? = some s[z2] from by rw [head_drop, dif_pos hlt])
          by_cases h32 : s[z2].toNat = 32
          · have y2 : ((s[z2].toNat : Int) == 32) = true := by rw [h32]; rfl
            have y3 : (s[z2].toNat : Int) = 32 := by omega
            have y4 : (s[z2].toNat == 32) = true := by rw [h32]; rfl
            have RR := Lib.hid (show acc ++ ((lo, hi) :: rdD f (s.data.toList.drop (z2 + 1))) = R from by
              have := RD.out
              try simp only at this
              rw [if_pos (by rw [HH.out, show s[z2] = 32 from UInt8.toNat_inj.1 h32]), tail_drop] at this
              exact this)
            clear RD HY h32
            go_wp2_with fail
            go_roundw
            case rel =>
              obtain ⟨f', rfl⟩ : ∃ k, f = k + 1 := ⟨f - 1, by have := HF.out; have := HZ.out; omega⟩
              exact ⟨z2 + 1, acc ++ [(lo, hi)], f', by omega, by go_num, by have := HZ.out; rw [List.length_append]; simp; omega, AX2.out, by rw [List.length_append]; exact OW3.out, by rw [List.append_assoc]; exact RR.out, by have := HF.out; have := HZ.out; omega, BW3.out⟩
            case measure => have := HZ.out; simp [RowKit.intOf]; omega
          · have RR := Lib.hid (show acc ++ [(lo, hi)] = R from by
              have := RD.out
              try simp only at this
              rw [if_neg (by rw [HH.out]; intro h; injection h with h; exact h32 (by rw [h]; rfl))] at this
              exact this)
            have y2 : ((s[z2].toNat : Int) == 32) = false := by rw [beq_eq_false_iff_ne]; omega
            have y3 : ¬ (s[z2].toNat : Int) = 32 := by omega
            clear RD HY
            have OWR := Lib.hid (show w1.ownsRow w.heap.size 38 2 (.slice (some ⟨g', 0, none⟩) (acc.length + 1) cap') R.length (cellsI R) from by rw [← RR.out, List.length_append]; exact OW3.out)
            have TX := Lib.hid (show Calls Tryz.prog 6 #[.slice (some ⟨g', 0, none⟩) (acc.length + 1) cap'] w1 (TextRes R w1) from by
              have hl : R.length = acc.length + 1 := by rw [← RR.out, List.length_append]; rfl
              obtain ⟨G, cap, e, hp⟩ := pairs_of_owns OWR.out (by have := HZ.out; omega) (fun x hx => by have := AX2.out x (by rw [RR.out]; exact hx); unfold In10 at this; omega)
              rw [e]
              exact Text_r_any R G cap w1 hp)
            clear AX2 OW3
            cases hv : vd 0 R with
            | true =>
              have TX2 := Lib.hid (show Calls Tryz.prog 6 #[.slice (some ⟨g', 0, none⟩) (acc.length + 1) cap'] w1 (fun e w' => e = .returned (.tuple #[.string (st (txD R)), .int .i64 0]) ∧ Below w1.heap.size w1 w') from by have := TX.out; unfold TextRes at this; rw [hv] at this; exact this)
              clear TX
              by_cases he : txD R = s.data.toList
              · have PZ2 := Lib.hid (show parseD s.data.toList = some R from by rw [PZ.out, if_pos ⟨hv, he⟩])
                have hb1 : ((st (txD R)).toList == s.toList) = true := by rw [bytes_eqX, st_data]; exact decide_eq_true he
                have hb2 : (!(st (txD R)).toList == s.toList) = false := by rw [hb1]; rfl
                clear he hv
                go_wp2_with (go_at_call 6; refine TX2.out.mono ?_; rintro e w2 ⟨rfl, hb⟩; have B4 := Lib.hid hb; clear hb TX2)
                go_ret2
                rw [PZ2.out]
                exact ⟨⟨_, rfl, owns_belowX OWR.out B4.out⟩, BW3.out.trans (B4.out.mono BW3.out.size)⟩
              · have PZ2 := Lib.hid (show parseD s.data.toList = none from by rw [PZ.out, if_neg (fun h => he h.2)])
                have hb1 : ((st (txD R)).toList == s.toList) = false := by rw [bytes_eqX, st_data]; exact decide_eq_false he
                have hb2 : (!(st (txD R)).toList == s.toList) = true := by rw [hb1]; rfl
                clear he hv
                go_wp2_with (go_at_call 6; refine TX2.out.mono ?_; rintro e w2 ⟨rfl, hb⟩; have B4 := Lib.hid hb; clear hb TX2)
                go_ret2
                rw [PZ2.out]
                exact ⟨rfl, BW3.out.trans (B4.out.mono BW3.out.size)⟩
            | false =>
              have PZ2 := Lib.hid (show parseD s.data.toList = none from by rw [PZ.out, if_neg (fun h => by rw [hv] at h; cases h.1)])
              have TX2 := Lib.hid (show Calls Tryz.prog 6 #[.slice (some ⟨g', 0, none⟩) (acc.length + 1) cap'] w1 (fun e w' => e = .returned (.tuple #[.string (st []), .int .i64 2]) ∧ Below w1.heap.size w1 w') from by have := TX.out; unfold TextRes at this; rw [hv] at this; exact this)
              clear TX hv
              go_wp2_with (go_at_call 6; refine TX2.out.mono ?_; rintro e w2 ⟨rfl, hb⟩; have B4 := Lib.hid hb; clear hb TX2)
              go_ret2
              rw [PZ2.out]
              exact ⟨rfl, BW3.out.trans (B4.out.mono BW3.out.size)⟩
        · have RR := Lib.hid (show acc ++ [(lo, hi)] = R from by
            have := RD.out
            try simp only at this
            rw [if_neg (by rw [head_drop, dif_neg hlt]; intro h; cases h)] at this
            exact this)
          have y1 : (s.size : Int) ≤ (z2 : Int) := by omega
          clear RD HY
          have OWR := Lib.hid (show w1.ownsRow w.heap.size 38 2 (.slice (some ⟨g', 0, none⟩) (acc.length + 1) cap') R.length (cellsI R) from by rw [← RR.out, List.length_append]; exact OW3.out)
          have TX := Lib.hid (show Calls Tryz.prog 6 #[.slice (some ⟨g', 0, none⟩) (acc.length + 1) cap'] w1 (TextRes R w1) from by
            have hl : R.length = acc.length + 1 := by rw [← RR.out, List.length_append]; rfl
            obtain ⟨G, cap, e, hp⟩ := pairs_of_owns OWR.out (by have := HZ.out; omega) (fun x hx => by have := AX2.out x (by rw [RR.out]; exact hx); unfold In10 at this; omega)
            rw [e]
            exact Text_r_any R G cap w1 hp)
          clear AX2 OW3
          cases hv : vd 0 R with
          | true =>
            have TX2 := Lib.hid (show Calls Tryz.prog 6 #[.slice (some ⟨g', 0, none⟩) (acc.length + 1) cap'] w1 (fun e w' => e = .returned (.tuple #[.string (st (txD R)), .int .i64 0]) ∧ Below w1.heap.size w1 w') from by have := TX.out; unfold TextRes at this; rw [hv] at this; exact this)
            clear TX
            by_cases he : txD R = s.data.toList
            · have PZ2 := Lib.hid (show parseD s.data.toList = some R from by rw [PZ.out, if_pos ⟨hv, he⟩])
              have hb1 : ((st (txD R)).toList == s.toList) = true := by rw [bytes_eqX, st_data]; exact decide_eq_true he
              have hb2 : (!(st (txD R)).toList == s.toList) = false := by rw [hb1]; rfl
              clear he hv
              go_wp2_with (go_at_call 6; refine TX2.out.mono ?_; rintro e w2 ⟨rfl, hb⟩; have B4 := Lib.hid hb; clear hb TX2)
              go_ret2
              rw [PZ2.out]
              exact ⟨⟨_, rfl, owns_belowX OWR.out B4.out⟩, BW3.out.trans (B4.out.mono BW3.out.size)⟩
            · have PZ2 := Lib.hid (show parseD s.data.toList = none from by rw [PZ.out, if_neg (fun h => he h.2)])
              have hb1 : ((st (txD R)).toList == s.toList) = false := by rw [bytes_eqX, st_data]; exact decide_eq_false he
              have hb2 : (!(st (txD R)).toList == s.toList) = true := by rw [hb1]; rfl
              clear he hv
              go_wp2_with (go_at_call 6; refine TX2.out.mono ?_; rintro e w2 ⟨rfl, hb⟩; have B4 := Lib.hid hb; clear hb TX2)
              go_ret2
              rw [PZ2.out]
              exact ⟨rfl, BW3.out.trans (B4.out.mono BW3.out.size)⟩
          | false =>
            have PZ2 := Lib.hid (show parseD s.data.toList = none from by rw [PZ.out, if_neg (fun h => by rw [hv] at h; cases h.1)])
            have TX2 := Lib.hid (show Calls Tryz.prog 6 #[.slice (some ⟨g', 0, none⟩) (acc.length + 1) cap'] w1 (fun e w' => e = .returned (.tuple #[.string (st []), .int .i64 2]) ∧ Below w1.heap.size w1 w') from by have := TX.out; unfold TextRes at this; rw [hv] at this; exact this)
            clear TX hv
            go_wp2_with (go_at_call 6; refine TX2.out.mono ?_; rintro e w2 ⟨rfl, hb⟩; have B4 := Lib.hid hb; clear hb TX2)
            go_ret2
            rw [PZ2.out]
            exact ⟨rfl, BW3.out.trans (B4.out.mono BW3.out.size)⟩
end Go.Proofs.YtjhlodbhchdkbaaGreatDoor
