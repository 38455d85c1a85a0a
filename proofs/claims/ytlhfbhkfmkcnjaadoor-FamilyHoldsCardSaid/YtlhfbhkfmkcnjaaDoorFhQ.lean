/-
  Whether a relation holds: the document's word.
-/
import Derived.Deep.RegionHeld
import Derived.Test.YtlhfbhkfmkcnjaaDoorFhM
import Derived.Test.YtlhfbhkfmkcnjaaDoorFhN
namespace Go.Proofs.YtlhfbhkfmkcnjaaDoor
set_option linter.unusedSimpArgs false
open Go Go.RowKit Go.Ev

/-- a row of one's own, as a list -/
theorem ints_of_owns {W : World} {base : Nat} {v : Value} {L : List Int} (h : W.ownsRow base 3 1 v L.length (L.map (Value.int .i64))) (hl : L.length ≤ 1000000) (hr : ∀ x ∈ L, -9223372036854775808 ≤ x ∧ x ≤ 9223372036854775807) : ∃ G cap, v = .slice G L.length cap ∧ Ints W G L := by
  rcases h.2 with ⟨hv, h0⟩ | ⟨g, cap, cur, hv, _⟩
  · exact ⟨none, 0, by rw [hv, h0], ints_of_rowAt hl hr (base := base) fun hp => by omega⟩
  · refine ⟨_, cap, hv, ints_of_rowAt hl hr (base := base) fun hp => ?_⟩
    rw [hv] at h
    exact rowAt_of_owns h hp
set_option maxHeartbeats 2000000 in
theorem has_same (xs : List Int) (n : Int) (A : Option Addr) (c : Nat) (w : World) (ha : Ints w A xs) :
    Calls Tryd.prog 90 #[.slice A xs.length c, .int .i64 n] w fun e w' => e = .returned (.bool (xs.contains n)) ∧ w' = w := by
  have hlx := ha.1
  have HA := Lib.hid ha.2.2
  clear ha
  go_enter Tryd.func90, Tryd.ntmps90
  go_wp2_with fail
  go_loopw [5] (fun i wr => ∃ k : Nat, k ≤ xs.length ∧ i = .int .i64 k ∧ xs.contains n = (xs.drop k).contains n ∧ wr = w) (fun i _ => xs.length - (intOf i).toNat)
  case atStart => exact ⟨0, Nat.zero_le _, rfl, by simp, rfl⟩
  case round =>
    obtain ⟨k, hk, rfl, has, rfl⟩ := hrel
    by_cases hlt : k < xs.length
    · obtain ⟨b1, o1, rfl, hb1', g1⟩ := HA.out (by omega)
      have x1 := g1 k hlt
      rw [List.drop_eq_getElem_cons hlt, List.contains_cons] at has
      have HS := Lib.hid has
      have z1 : (k : Int) < (xs.length : Int) := by omega
      have z2 : (0 : Int) ≤ (k : Int) := by omega
      clear g1 HA has
      generalize xs[k] = p at *
      by_cases hpq : p = n
      · have y2 : (p == n) = true := by simpa using hpq
        have HP := Lib.hid hpq
        clear hpq
        go_wp2_with fail
        go_ret
        exact ⟨by rw [HS.out, HP.out]; simp, by first | exact trivial | rfl⟩
      · have y2 : (p == n) = false := by simpa using hpq
        have HP := Lib.hid (show (n == p) = false by simpa using fun e => hpq e.symm)
        clear hpq
        go_wp2_with fail
        go_roundw
        case rel => exact ⟨k + 1, by omega, by go_num, by rw [HS.out, HP.out]; rfl, by first | exact trivial | rfl⟩
        case measure => simp [intOf]; omega
    · obtain rfl : k = xs.length := by omega
      rw [List.drop_length] at has
      have HS := Lib.hid has
      clear has HA
      go_wp2_with fail
      go_ret
      exact ⟨by rw [HS.out]; rfl, rfl⟩
set_option maxRecDepth 100000 in
set_option maxHeartbeats 8000000 in
theorem Holds_r_any (k : ByteArray) (d : Kd) (h : KF k.toList d) (vs : List Int) (N : Int) (ls : List (List Int)) (A B : Option Addr) (c1 c2 : Nat) (w : World) (ha : Ints w A vs) (hb : LL w B ls) (h200 : ∀ l ∈ ls, l.length ≤ 200) :
    Calls Tryd.prog 43 #[.agg #[.string k, .slice A vs.length c1, .int .i64 N], .slice B ls.length c2] w fun e w' => e = .returned (.bool (holdPB d vs N ls)) ∧ Below w.heap.size w w' := by
  have VR := Lib.hid (fun w1 (h1 : Below w.heap.size w w1) => ValidRel_r_any k d h vs N ls.length A c1 w1 (ha.over h1))
  have hlv := ha.1
  have hll := hb.1
  have HA := Lib.hid ha
  have HB := Lib.hid hb
  have HK := Lib.hid h
  have H200 := Lib.hid h200
  clear ha hb h h200
  have B1 := Lib.hid (show Below w.heap.size w (w.alloc (.cells #[.string k, .slice A vs.length c1, .int .i64 N] 49)) from (Below.refl _ w).alloc (Nat.le_refl _) _)
  have BX := Lib.hid (show (∀ wx, Below (w.alloc (.cells #[.string k, .slice A vs.length c1, .int .i64 N] 49)).heap.size (w.alloc (.cells #[.string k, .slice A vs.length c1, .int .i64 N] 49)) wx → wx.cell? ⟨w.heap.size, 0, none⟩ = some (.string k)) ∧
      (∀ wx, Below (w.alloc (.cells #[.string k, .slice A vs.length c1, .int .i64 N] 49)).heap.size (w.alloc (.cells #[.string k, .slice A vs.length c1, .int .i64 N] 49)) wx → wx.cell? ⟨w.heap.size, 1, none⟩ = some (.slice A vs.length c1)) ∧
      (∀ wx, Below (w.alloc (.cells #[.string k, .slice A vs.length c1, .int .i64 N] 49)).heap.size (w.alloc (.cells #[.string k, .slice A vs.length c1, .int .i64 N] 49)) wx → wx.cell? ⟨w.heap.size, 2, none⟩ = some (.int .i64 N)) from by
    refine ⟨fun wx h => (h.cell (p := ⟨w.heap.size, 0, none⟩) (by simp)).trans (by simp [go_sem]), fun wx h => (h.cell (p := ⟨w.heap.size, 1, none⟩) (by simp)).trans (by simp [go_sem]), fun wx h => (h.cell (p := ⟨w.heap.size, 2, none⟩) (by simp)).trans (by simp [go_sem])⟩)
  unfold holdPB
  cases hrel : relB d vs ls.length with
  | false =>
    rw [hrel] at VR
    simp only [Bool.false_and]
    clear HA HB HK hrel
    generalize vs.length = lv at *
    generalize ls.length = ll at *
    go_enter Tryd.func43, Tryd.ntmps43
    go_wp2_with (go_at_call 87; refine (VR.out _ B1.out).mono ?_; rintro e w2 ⟨rfl, hb⟩; have H2 := Lib.hid (B1.out.trans (hb.mono (by simp))); clear hb)
    go_ret
    exact ⟨rfl, H2.out⟩
  | true =>
    rw [hrel] at VR
    simp only [Bool.true_and]
    obtain ⟨m, hm1, hm2, hin, hn40⟩ := relB_parts hrel
    obtain ⟨R, hR⟩ : ∃ R, (!(ls.any fun l => !ascB l) && kindB d (nthL ls (vs.getD 0 0)) (nthL ls (vs.getD 1 0)) (nthL ls (vs.getD 2 0)) N) = R := ⟨_, rfl⟩
    rw [hR]
    have HR := Lib.hid hR
    have HIN := Lib.hid hin
    have hm3 : m ≤ 3 := by cases d <;> simp [varsN] at hm1 <;> omega
    have hl0 : 0 < vs.length := by cases d <;> simp [varsN] at hm1 <;> omega
    have hl1 : 0 < ls.length := by have := hin _ (List.getElem_mem hl0); omega
    have HM1 := Lib.hid (And.intro hm1 (And.intro hm2 (And.intro hm3 (And.intro hn40 hl0))))
    obtain ⟨b2, o2, rfl, hb2', AF, CF, hz, g2⟩ := HB.out.2 hl1
    have G2 := Lib.hid g2
    have HZ := Lib.hid hz
    clear hrel hin hm1 hm2 hm3 hn40 hR hl0 g2 HB hz
    go_enter Tryd.func43, Tryd.ntmps43
    go_wp2_with (go_at_call 87; refine (VR.out _ B1.out).mono ?_; rintro e w2 ⟨rfl, hb⟩; have H2 := Lib.hid hb; clear hb VR)
    generalize hW1 : w.alloc (.cells #[.string k, .slice A vs.length c1, .int .i64 N] 49) = W1 at *
    have hs1 : W1.heap.size = w.heap.size + 1 := by rw [← hW1]; simp
    clear hW1
    go_loopw [5] (fun i wr => ∃ q : Nat, q ≤ ls.length ∧ i = .int .i64 q ∧ (∀ j (hj : j < q) (hl : j < ls.length), ascB ls[j] = true) ∧ Below W1.heap.size W1 wr) (fun i _ => ls.length - (intOf i).toNat)
    case atStart => exact ⟨0, Nat.zero_le _, rfl, fun j hj => absurd hj (Nat.not_lt_zero _), H2.out⟩
    case round =>
      obtain ⟨q, hq, rfl, hall, hbw⟩ := hrel
      have HL := Lib.hid hall
      have HBW := Lib.hid hbw
      have BW := Lib.hid (show Below w.heap.size w wr from B1.out.trans (hbw.mono (by omega)))
      clear hall hbw
      by_cases hlt : q < ls.length
      · have x1 := (BW.out.cell (p := ⟨b2, o2 + q, none⟩) hb2').trans (G2.out q hlt).1
        have AS := Lib.hid (ascending_any ls[q] (AF q) (CF q) wr ((G2.out q hlt).2.over BW.out))
        have HX := Lib.hid (show ∀ z, ascB ls[q] = z → ascB ls[q] = z from fun _ h => h)
        have HM := Lib.hid (List.getElem_mem hlt)
        have z1 : (q : Int) < (ls.length : Int) := by omega
        have z2 : (0 : Int) ≤ (q : Int) := by omega

        cases hxa : ascB ls[q] with
        | false =>
          rw [hxa] at AS
          have HZ := Lib.hid (show R = false by
            rw [← HR.out, show (ls.any fun l => !ascB l) = true from List.any_eq_true.2 ⟨_, HM.out, by rw [hxa]; rfl⟩]; rfl)
          clear hxa HR HX HM HL
          generalize ls[q].length = lq at *
          go_wp2_with (go_at_call 88; refine AS.out.mono ?_; rintro e w3 ⟨rfl, hb⟩; have H3 := Lib.hid hb; clear hb AS)
          go_ret
          exact ⟨by rw [HZ.out]; rfl, BW.out.trans (H3.out.mono BW.out.size)⟩
        | true =>
          rw [hxa] at AS
          have HXA := Lib.hid hxa
          clear hxa HR HX HM
          generalize ls[q].length = lq at *
          go_wp2_with (go_at_call 88; refine AS.out.mono ?_; rintro e w3 ⟨rfl, hb⟩; have H3 := Lib.hid hb; clear hb AS)
          go_roundw
          case rel =>
            refine ⟨q + 1, by omega, by go_num, fun j hj hl => ?_, HBW.out.trans (H3.out.mono HBW.out.size)⟩
            rcases Nat.lt_or_ge j q with h | h
            · exact HL.out j h hl
            · obtain rfl : j = q := by omega
              exact HXA.out
          case measure => simp [intOf]; omega
      · obtain rfl : q = ls.length := by omega
        have hno : (ls.any fun l => !ascB l) = false := by
          rw [List.any_eq_false]
          intro x hx
          obtain ⟨j, hj, rfl⟩ := List.getElem_of_mem hx
          rw [HL.out j hj hj]; decide
        have hr := HR.out
        rw [hno, Bool.not_false, Bool.true_and] at hr
        have HR2 := Lib.hid hr
        clear hr hno HR
        have HASC := Lib.hid (show ∀ l ∈ ls, ascB l = true from fun l hl => by
          obtain ⟨j, hj, rfl⟩ := List.getElem_of_mem hl
          exact HL.out j hj hj)
        have hl0 := HM1.out.2.2.2.2
        obtain ⟨b1, o1, rfl, hb1', g1⟩ := HA.out.2.2 hl0
        have G1 := Lib.hid g1
        have SV := Lib.hid (show ∀ j (h : j < vs.length), ∃ (t : Nat) (P : Option Addr) (c : Nat), w.cell? ⟨b1, o1 + j, none⟩ = some (.int .i64 t) ∧ t < ls.length ∧ w.cell? ⟨b2, o2 + t, none⟩ = some (.slice P (nthL ls (vs.getD j 0)).length c) ∧ Ints w P (nthL ls (vs.getD j 0)) ∧ ascB (nthL ls (vs.getD j 0)) = true ∧ (P = none → c = 0) ∧ (nthL ls (vs.getD j 0)).length ≤ 200 from fun j hj => by
            have e : vs.getD j 0 = vs[j] := by simp [List.getD_eq_getElem?_getD, List.getElem?_eq_getElem hj]
            have hi := HIN.out _ (List.getElem_mem hj)
            have hc := G1.out j hj
            rw [e]
            obtain ⟨t, ht⟩ : ∃ t : Nat, vs[j] = t := ⟨vs[j].toNat, by omega⟩
            rw [ht] at hi hc ⊢
            have htl : t < ls.length := by omega
            have en : nthL ls (t : Int) = ls[t] := by unfold nthL; rw [Int.toNat_natCast]; simp [List.getD_eq_getElem?_getD, List.getElem?_eq_getElem htl]
            rw [en]
            exact ⟨t, AF t, CF t, hc, htl, (G2.out t htl).1, (G2.out t htl).2, HASC.out _ (List.getElem_mem htl), HZ.out t, H200.out _ (List.getElem_mem htl)⟩)
        have YB := Lib.hid (show (∀ wx, Below W1.heap.size W1 wx → wx.cell? ⟨w.heap.size, 0, none⟩ = some (.string k)) ∧ (∀ wx, Below W1.heap.size W1 wx → wx.cell? ⟨w.heap.size, 1, none⟩ = some (.slice (some ⟨b1, o1, none⟩) vs.length c1)) ∧ (∀ wx, Below W1.heap.size W1 wx → wx.cell? ⟨w.heap.size, 2, none⟩ = some (.int .i64 N)) from BX.out)
        obtain ⟨h0, h1, h2, h3, h4, h5, h6, h7⟩ := HK.out
        have y0 := YB.out.1 _ HBW.out
        have y2 := YB.out.2.2 _ HBW.out
        have hmm := HM1.out
        have BWQ := Lib.hid (show ∀ wx, Below wr.heap.size wr wx → Below w.heap.size w wx from fun wx q => BW.out.trans (q.mono BW.out.size))
        have BWR := Lib.hid (show ∀ wx, Below wr.heap.size wr wx → Below W1.heap.size W1 wx from fun wx q => HBW.out.trans (q.mono HBW.out.size))
        have hsr := HBW.out.size
        clear G1 G2 HIN HASC HA HK HM1 HL HZ H200 BX hl0 g1 H2
        cases d with
        | part =>
          obtain ⟨q1, q2, _⟩ := hmm
          injection q1 with q1
          have hlen : vs.length = 2 := by omega
          simp only [Kd.is] at h0 h1 h2 h3 h4 h5 h6 h7
          have y1 := YB.out.2.1 _ HBW.out
          rw [hlen] at y1
          obtain ⟨t0, P0, k0, X0, T0, L0, I0, A0, Z0, E0⟩ := SV.out 0 (by omega)
          simp only [Nat.add_zero] at X0
          have x0 := (BW.out.cell (p := ⟨b1, o1, none⟩) hb1').trans X0
          have l0 := (BW.out.cell (p := ⟨b2, o2 + t0, none⟩) hb2').trans L0
          have u0 : (t0 : Int) < (ls.length : Int) := by omega
          have v0 : (0 : Int) ≤ (t0 : Int) := by omega
          obtain ⟨t1, P1, k1, X1, T1, L1, I1, A1, Z1, E1⟩ := SV.out 1 (by omega)
          have x1 := (BW.out.cell (p := ⟨b1, o1 + 1, none⟩) hb1').trans X1
          have l1 := (BW.out.cell (p := ⟨b2, o2 + t1, none⟩) hb2').trans L1
          have u1 : (t1 : Int) < (ls.length : Int) := by omega
          have v1 : (0 : Int) ≤ (t1 : Int) := by omega
          obtain ⟨a, ha⟩ : ∃ l, nthL ls (vs.getD 0 0) = l := ⟨_, rfl⟩
          rw [ha] at l0 I0 A0 E0
          obtain ⟨b, hb⟩ : ∃ l, nthL ls (vs.getD 1 0) = l := ⟨_, rfl⟩
          rw [hb] at l1 I1 A1 E1
          obtain ⟨c, hc⟩ : ∃ l, nthL ls (vs.getD 2 0) = l := ⟨_, rfl⟩
          have ER := HR2.out
          rw [ha, hb, hc] at ER
          have II := Lib.hid (And.intro I0 (And.intro I1 I0))
          have ZZ := Lib.hid (And.intro Z0 (And.intro Z1 Z0))
          have AA := Lib.hid (And.intro A0 A0)
          have EE := Lib.hid (And.intro E0 (And.intro E1 E0))
          have ERH := Lib.hid ER
          clear ER ha hb hc q1 q2 hlen HR2 SV X0 T0 L0 I0 A0 Z0 E0 X1 T1 L1 I1 A1 Z1 E1
          have QP := Lib.hid (fun w1 (q : Below w.heap.size w w1) => inAll_any a b true P0 P1 k0 k1 w1 (II.out.1.over q) (II.out.2.1.over q))
          have KR := Lib.hid (show kindR .part a b c N = kindB .part a b c N from by simp [kindR, kindB])
          obtain ⟨X, hX⟩ : ∃ X, (a.all fun x => b.contains x == true) = X := ⟨_, rfl⟩
          rw [hX] at QP
          have KX := Lib.hid (show (X) = R from by rw [← hX]; exact KR.out.trans ERH.out)
          clear hX KR ERH
          repeat ((fail_if_success (at_builtin; refine wpList_append_ints rfl _ _ rfl wr.heap.size _ [] rfl (World.ownsRow_nil _ _ _ _) P0 k0 a rfl (II.out.1.over BW.out) ZZ.out.1 ?_ (Nat.le_refl _) ?_)); go_step)
          (at_builtin; refine wpList_append_ints rfl _ _ rfl wr.heap.size _ [] rfl (World.ownsRow_nil _ _ _ _) P0 k0 a rfl (II.out.1.over BW.out) ZZ.out.1 (by have := EE.out.1; simp; omega) (Nat.le_refl _) ?_; intro v1 w1 ho1 hg1; have HO1 := Lib.hid ho1; have HG1 := Lib.hid (Below.grown (Below.refl wr.heap.size wr) hg1 (Nat.le_refl _) (fun k e => by cases e)); clear ho1 hg1)
          repeat ((fail_if_success at_builtin); go_step)
          (at_builtin; refine wpList_append_ints rfl _ _ rfl wr.heap.size _ _ rfl HO1.out P1 k1 b rfl (II.out.2.1.over (BWQ.out _ HG1.out)) ZZ.out.2.1 (by have := EE.out; simp; omega) HG1.out.size ?_; intro v2 w2 ho2 hg2; have HO2 := Lib.hid ho2; have HG2 := Lib.hid (Below.grown HG1.out hg2 HG1.out.size (fun k e => (HO1.out.lt k e).1)); clear ho2 hg2 HO1)
          repeat ((fail_if_success at_builtin); go_step)
          (at_builtin; refine wpList_append_ints rfl _ _ rfl wr.heap.size _ _ rfl HO2.out P0 k0 a rfl (II.out.2.2.over (BWQ.out _ HG2.out)) ZZ.out.2.2 (by have := EE.out; simp; omega) HG2.out.size ?_; intro v3 w3 ho3 hg3; have HG3 := Lib.hid (Below.grown HG2.out hg3 HG2.out.size (fun k e => (HO2.out.lt k e).1)); obtain ⟨G9, k9, rfl, I9⟩ := ints_of_owns ho3 (by have := EE.out; simp; omega) (by intro x hx; simp only [List.nil_append, List.mem_append] at hx; rcases hx with (hx | hx) | hx; exact II.out.1.2.1 x hx; exact II.out.2.1.2.1 x hx; exact II.out.2.2.2.1 x hx); have hL9 := I9.1; generalize hL : ([] ++ a ++ b ++ a : List Int) = L at *; have HL := Lib.hid hL; have HI9 := Lib.hid I9; clear hL; have e0 := YB.out.1 _ (BWR.out _ HG3.out); have e2 := YB.out.2.2 _ (BWR.out _ HG3.out); clear ho3 hg3 HO2 I9)
          go_wp2_with ((go_at_call 89; refine (QP.out _ (BWQ.out _ HG3.out)).mono ?_; rintro e x1 ⟨rfl, hb⟩; have HX1 := Lib.hid (show Below wr.heap.size wr x1 from HG3.out.trans (hb.mono HG3.out.size)); clear hb QP))
          go_ret
          exact ⟨by rw [← KX.out]; rfl, BWQ.out _ HX1.out⟩
        | apart =>
          obtain ⟨q1, q2, _⟩ := hmm
          injection q1 with q1
          have hlen : vs.length = 2 := by omega
          simp only [Kd.is] at h0 h1 h2 h3 h4 h5 h6 h7
          have y1 := YB.out.2.1 _ HBW.out
          rw [hlen] at y1
          obtain ⟨t0, P0, k0, X0, T0, L0, I0, A0, Z0, E0⟩ := SV.out 0 (by omega)
          simp only [Nat.add_zero] at X0
          have x0 := (BW.out.cell (p := ⟨b1, o1, none⟩) hb1').trans X0
          have l0 := (BW.out.cell (p := ⟨b2, o2 + t0, none⟩) hb2').trans L0
          have u0 : (t0 : Int) < (ls.length : Int) := by omega
          have v0 : (0 : Int) ≤ (t0 : Int) := by omega
          obtain ⟨t1, P1, k1, X1, T1, L1, I1, A1, Z1, E1⟩ := SV.out 1 (by omega)
          have x1 := (BW.out.cell (p := ⟨b1, o1 + 1, none⟩) hb1').trans X1
          have l1 := (BW.out.cell (p := ⟨b2, o2 + t1, none⟩) hb2').trans L1
          have u1 : (t1 : Int) < (ls.length : Int) := by omega
          have v1 : (0 : Int) ≤ (t1 : Int) := by omega
          obtain ⟨a, ha⟩ : ∃ l, nthL ls (vs.getD 0 0) = l := ⟨_, rfl⟩
          rw [ha] at l0 I0 A0 E0
          obtain ⟨b, hb⟩ : ∃ l, nthL ls (vs.getD 1 0) = l := ⟨_, rfl⟩
          rw [hb] at l1 I1 A1 E1
          obtain ⟨c, hc⟩ : ∃ l, nthL ls (vs.getD 2 0) = l := ⟨_, rfl⟩
          have ER := HR2.out
          rw [ha, hb, hc] at ER
          have II := Lib.hid (And.intro I0 (And.intro I1 I0))
          have ZZ := Lib.hid (And.intro Z0 (And.intro Z1 Z0))
          have AA := Lib.hid (And.intro A0 A0)
          have EE := Lib.hid (And.intro E0 (And.intro E1 E0))
          have ERH := Lib.hid ER
          clear ER ha hb hc q1 q2 hlen HR2 SV X0 T0 L0 I0 A0 Z0 E0 X1 T1 L1 I1 A1 Z1 E1
          have QP := Lib.hid (fun w1 (q : Below w.heap.size w w1) => inAll_any a b false P0 P1 k0 k1 w1 (II.out.1.over q) (II.out.2.1.over q))
          have KR := Lib.hid (show kindR .apart a b c N = kindB .apart a b c N from by simp [kindR, kindB])
          obtain ⟨X, hX⟩ : ∃ X, (a.all fun x => b.contains x == false) = X := ⟨_, rfl⟩
          rw [hX] at QP
          have KX := Lib.hid (show (X) = R from by rw [← hX]; exact KR.out.trans ERH.out)
          clear hX KR ERH
          repeat ((fail_if_success (at_builtin; refine wpList_append_ints rfl _ _ rfl wr.heap.size _ [] rfl (World.ownsRow_nil _ _ _ _) P0 k0 a rfl (II.out.1.over BW.out) ZZ.out.1 ?_ (Nat.le_refl _) ?_)); go_step)
          (at_builtin; refine wpList_append_ints rfl _ _ rfl wr.heap.size _ [] rfl (World.ownsRow_nil _ _ _ _) P0 k0 a rfl (II.out.1.over BW.out) ZZ.out.1 (by have := EE.out.1; simp; omega) (Nat.le_refl _) ?_; intro v1 w1 ho1 hg1; have HO1 := Lib.hid ho1; have HG1 := Lib.hid (Below.grown (Below.refl wr.heap.size wr) hg1 (Nat.le_refl _) (fun k e => by cases e)); clear ho1 hg1)
          repeat ((fail_if_success at_builtin); go_step)
          (at_builtin; refine wpList_append_ints rfl _ _ rfl wr.heap.size _ _ rfl HO1.out P1 k1 b rfl (II.out.2.1.over (BWQ.out _ HG1.out)) ZZ.out.2.1 (by have := EE.out; simp; omega) HG1.out.size ?_; intro v2 w2 ho2 hg2; have HO2 := Lib.hid ho2; have HG2 := Lib.hid (Below.grown HG1.out hg2 HG1.out.size (fun k e => (HO1.out.lt k e).1)); clear ho2 hg2 HO1)
          repeat ((fail_if_success at_builtin); go_step)
          (at_builtin; refine wpList_append_ints rfl _ _ rfl wr.heap.size _ _ rfl HO2.out P0 k0 a rfl (II.out.2.2.over (BWQ.out _ HG2.out)) ZZ.out.2.2 (by have := EE.out; simp; omega) HG2.out.size ?_; intro v3 w3 ho3 hg3; have HG3 := Lib.hid (Below.grown HG2.out hg3 HG2.out.size (fun k e => (HO2.out.lt k e).1)); obtain ⟨G9, k9, rfl, I9⟩ := ints_of_owns ho3 (by have := EE.out; simp; omega) (by intro x hx; simp only [List.nil_append, List.mem_append] at hx; rcases hx with (hx | hx) | hx; exact II.out.1.2.1 x hx; exact II.out.2.1.2.1 x hx; exact II.out.2.2.2.1 x hx); have hL9 := I9.1; generalize hL : ([] ++ a ++ b ++ a : List Int) = L at *; have HL := Lib.hid hL; have HI9 := Lib.hid I9; clear hL; have e0 := YB.out.1 _ (BWR.out _ HG3.out); have e2 := YB.out.2.2 _ (BWR.out _ HG3.out); clear ho3 hg3 HO2 I9)
          go_wp2_with ((go_at_call 89; refine (QP.out _ (BWQ.out _ HG3.out)).mono ?_; rintro e x1 ⟨rfl, hb⟩; have HX1 := Lib.hid (show Below wr.heap.size wr x1 from HG3.out.trans (hb.mono HG3.out.size)); clear hb QP))
          go_ret
          exact ⟨by rw [← KX.out]; rfl, BWQ.out _ HX1.out⟩
        | union =>
          obtain ⟨q1, q2, _⟩ := hmm
          injection q1 with q1
          have hlen : vs.length = 3 := by omega
          simp only [Kd.is] at h0 h1 h2 h3 h4 h5 h6 h7
          have y1 := YB.out.2.1 _ HBW.out
          rw [hlen] at y1
          obtain ⟨t0, P0, k0, X0, T0, L0, I0, A0, Z0, E0⟩ := SV.out 0 (by omega)
          simp only [Nat.add_zero] at X0
          have x0 := (BW.out.cell (p := ⟨b1, o1, none⟩) hb1').trans X0
          have l0 := (BW.out.cell (p := ⟨b2, o2 + t0, none⟩) hb2').trans L0
          have u0 : (t0 : Int) < (ls.length : Int) := by omega
          have v0 : (0 : Int) ≤ (t0 : Int) := by omega
          obtain ⟨t1, P1, k1, X1, T1, L1, I1, A1, Z1, E1⟩ := SV.out 1 (by omega)
          have x1 := (BW.out.cell (p := ⟨b1, o1 + 1, none⟩) hb1').trans X1
          have l1 := (BW.out.cell (p := ⟨b2, o2 + t1, none⟩) hb2').trans L1
          have u1 : (t1 : Int) < (ls.length : Int) := by omega
          have v1 : (0 : Int) ≤ (t1 : Int) := by omega
          obtain ⟨t2, P2, k2, X2, T2, L2, I2, A2, Z2, E2⟩ := SV.out 2 (by omega)
          have x2 := (BW.out.cell (p := ⟨b1, o1 + 2, none⟩) hb1').trans X2
          have l2 := (BW.out.cell (p := ⟨b2, o2 + t2, none⟩) hb2').trans L2
          have u2 : (t2 : Int) < (ls.length : Int) := by omega
          have v2 : (0 : Int) ≤ (t2 : Int) := by omega
          obtain ⟨a, ha⟩ : ∃ l, nthL ls (vs.getD 0 0) = l := ⟨_, rfl⟩
          rw [ha] at l0 I0 A0 E0
          obtain ⟨b, hb⟩ : ∃ l, nthL ls (vs.getD 1 0) = l := ⟨_, rfl⟩
          rw [hb] at l1 I1 A1 E1
          obtain ⟨c, hc⟩ : ∃ l, nthL ls (vs.getD 2 0) = l := ⟨_, rfl⟩
          rw [hc] at l2 I2 A2 E2
          have ER := HR2.out
          rw [ha, hb, hc] at ER
          have II := Lib.hid (And.intro I0 (And.intro I1 I2))
          have ZZ := Lib.hid (And.intro Z0 (And.intro Z1 Z2))
          have AA := Lib.hid (And.intro A0 A2)
          have EE := Lib.hid (And.intro E0 (And.intro E1 E2))
          have ERH := Lib.hid ER
          clear ER ha hb hc q1 q2 hlen HR2 SV X0 T0 L0 I0 A0 Z0 E0 X1 T1 L1 I1 A1 Z1 E1 X2 T2 L2 I2 A2 Z2 E2
          have QX := Lib.hid (fun n w1 (q : Below w.heap.size w w1) => has_same a n P0 k0 w1 (II.out.1.over q))
          have QY := Lib.hid (fun n w1 (q : Below w.heap.size w w1) => has_same b n P1 k1 w1 (II.out.2.1.over q))
          have QZ := Lib.hid (fun n w1 (q : Below w.heap.size w w1) => has_same c n P2 k2 w1 (II.out.2.2.over q))
          have KR := Lib.hid (show kindR .union a b c N = kindB .union a b c N from kind_eq .union a b c N AA.out.1 AA.out.2 (by intro h; cases h))
          repeat ((fail_if_success (at_builtin; refine wpList_append_ints rfl _ _ rfl wr.heap.size _ [] rfl (World.ownsRow_nil _ _ _ _) P0 k0 a rfl (II.out.1.over BW.out) ZZ.out.1 ?_ (Nat.le_refl _) ?_)); go_step)
          (at_builtin; refine wpList_append_ints rfl _ _ rfl wr.heap.size _ [] rfl (World.ownsRow_nil _ _ _ _) P0 k0 a rfl (II.out.1.over BW.out) ZZ.out.1 (by have := EE.out.1; simp; omega) (Nat.le_refl _) ?_; intro v1 w1 ho1 hg1; have HO1 := Lib.hid ho1; have HG1 := Lib.hid (Below.grown (Below.refl wr.heap.size wr) hg1 (Nat.le_refl _) (fun k e => by cases e)); clear ho1 hg1)
          repeat ((fail_if_success at_builtin); go_step)
          (at_builtin; refine wpList_append_ints rfl _ _ rfl wr.heap.size _ _ rfl HO1.out P1 k1 b rfl (II.out.2.1.over (BWQ.out _ HG1.out)) ZZ.out.2.1 (by have := EE.out; simp; omega) HG1.out.size ?_; intro v2 w2 ho2 hg2; have HO2 := Lib.hid ho2; have HG2 := Lib.hid (Below.grown HG1.out hg2 HG1.out.size (fun k e => (HO1.out.lt k e).1)); clear ho2 hg2 HO1)
          repeat ((fail_if_success at_builtin); go_step)
          (at_builtin; refine wpList_append_ints rfl _ _ rfl wr.heap.size _ _ rfl HO2.out P2 k2 c rfl (II.out.2.2.over (BWQ.out _ HG2.out)) ZZ.out.2.2 (by have := EE.out; simp; omega) HG2.out.size ?_; intro v3 w3 ho3 hg3; have HG3 := Lib.hid (Below.grown HG2.out hg3 HG2.out.size (fun k e => (HO2.out.lt k e).1)); obtain ⟨G9, k9, rfl, I9⟩ := ints_of_owns ho3 (by have := EE.out; simp; omega) (by intro x hx; simp only [List.nil_append, List.mem_append] at hx; rcases hx with (hx | hx) | hx; exact II.out.1.2.1 x hx; exact II.out.2.1.2.1 x hx; exact II.out.2.2.2.1 x hx); have hL9 := I9.1; generalize hL : ([] ++ a ++ b ++ c : List Int) = L at *; have HL := Lib.hid hL; have HI9 := Lib.hid I9; clear hL; have e0 := YB.out.1 _ (BWR.out _ HG3.out); have e2 := YB.out.2.2 _ (BWR.out _ HG3.out); clear ho3 hg3 HO2 I9)
          go_wp2_with fail
          have KX := Lib.hid (show (L.all fun x => elemB .union (a.contains x) (b.contains x) (c.contains x)) = R from by rw [← HL.out]; exact KR.out.trans ERH.out)
          obtain ⟨F, hF⟩ : ∃ F : Int → Bool, (fun x => elemB .union (a.contains x) (b.contains x) (c.contains x)) = F := ⟨_, rfl⟩
          rw [hF] at KX
          have FE := Lib.hid (show ∀ x, F x = elemB .union (a.contains x) (b.contains x) (c.contains x) from fun x => by rw [← hF])
          clear hF KR ERH HL
          go_loopw [10, 11, 12, 13] (fun i _ _ _ WQ => ∃ q : Nat, q ≤ L.length ∧ i = .int .i64 q ∧ L.all F = (L.drop q).all F ∧ Below w3.heap.size w3 WQ) (fun i _ _ _ _ => L.length - (intOf i).toNat)
          case atStart => exact ⟨0, Nat.zero_le _, rfl, by simp, Below.refl _ _⟩
          case round =>
            obtain ⟨q, hq, rfl, hall, hbw⟩ := hrel
            have HBX := Lib.hid hbw
            have BX9 := Lib.hid (HG3.out.trans (hbw.mono HG3.out.size))
            clear hbw e0
            have e0 := YB.out.1 _ (BWR.out _ BX9.out)
            by_cases hlt : q < L.length
            · obtain ⟨g9, o9, rfl, hg9, G9'⟩ := HI9.out.2.2 (by omega)
              have x9 := (HBX.out.cell (p := ⟨g9, o9 + q, none⟩) hg9).trans (G9' q hlt)
              rw [List.drop_eq_getElem_cons hlt, List.all_cons] at hall
              have HALL := Lib.hid hall
              have z1 : (q : Int) < (L.length : Int) := by omega
              have z2 : (0 : Int) ≤ (q : Int) := by omega
              clear hall G9'
              generalize L[q] = x at *
              have FX := Lib.hid (FE.out x)
              have QX2 := Lib.hid (QX.out x)
              have QY2 := Lib.hid (QY.out x)
              have QZ2 := Lib.hid (QZ.out x)
              clear QX QY QZ FE
              generalize a.contains x = X at *
              generalize b.contains x = Y at *
              generalize c.contains x = Z at *
              have D9 := Lib.hid (show Below w.heap.size w wr.drew from (BWQ.out _ BX9.out).trans ⟨rfl, rfl, rfl, Nat.le_refl _, fun _ _ => rfl⟩)
              have x9d : (fun (wx : World) => wx.cell? ⟨g9, o9 + q, none⟩ = some (.int .i64 x)) wr.drew := x9
              go_wp2_with fail
              refine wp_region_held_drew (S := fun (wx : World) => wx.cell? ⟨g9, o9 + q, none⟩ = some (.int .i64 x)) (by kernel_rfl) x9d (fun hHeld => ?_)
              refine wpAnyH_take (i := 0) (oi := { dst := some 106, op := Op.move (Operand.tmp 6), type := 23, pos := "ref.go:336", after := #[], guard := none }) (v := ?vn1k0) rfl (by kernel_rfl) (by kernel_rfl) (by kernel_rfl) (fun _ _ _ h => h) (Or.inl ⟨by kernel_rfl, ?yn1k0⟩) (by assumption) ?rn1k0
              case yn1k0 => intro w hSw; (try dsimp only at hSw); go_simp; try with_reducible rfl
              try simp only [Act.put, List.setIfInBounds_toArray, List.set_cons_zero, List.set_cons_succ]
              refine wpAnyH_take (i := 1) (oi := { dst := some 107, op := Op.move (Operand.tmp 9), type := 23, pos := "ref.go:336", after := #[], guard := none }) (v := ?vn2k1) rfl (by kernel_rfl) (by kernel_rfl) (by kernel_rfl) (fun _ _ _ h => h) (Or.inl ⟨by kernel_rfl, ?yn2k1⟩) (by assumption) ?rn2k1
              case yn2k1 => intro w hSw; (try dsimp only at hSw); go_simp; try with_reducible rfl
              try simp only [Act.put, List.setIfInBounds_toArray, List.set_cons_zero, List.set_cons_succ]
              refine wpAnyH_take (i := 2) (oi := { dst := some 108, op := Op.move (Operand.tmp 10), type := 3, pos := "ref.go:336", after := #[], guard := none }) (v := ?vn3k2) rfl (by kernel_rfl) (by kernel_rfl) (by kernel_rfl) (fun _ _ _ h => h) (Or.inl ⟨by kernel_rfl, ?yn3k2⟩) (by assumption) ?rn3k2
              case yn3k2 => intro w hSw; (try dsimp only at hSw); go_simp; try with_reducible rfl
              try simp only [Act.put, List.setIfInBounds_toArray, List.set_cons_zero, List.set_cons_succ]
              refine wpAnyH_take (i := 3) (oi := { dst := some 109, op := Op.indexAddr 23 (Operand.tmp 107) (Operand.tmp 108), type := 0, pos := "ref.go:336", after := #[{ on := 1, ground := Ground.data }, { on := 2, ground := Ground.data }], guard := none }) (v := ?vn4k3) rfl (by kernel_rfl) (by kernel_rfl) (by kernel_rfl) (fun _ _ _ h => h) (Or.inl ⟨by kernel_rfl, ?yn4k3⟩) (by assumption) ?rn4k3
              case yn4k3 => intro w hSw; (try dsimp only at hSw); go_simp; try with_reducible rfl
              try simp only [Act.put, List.setIfInBounds_toArray, List.set_cons_zero, List.set_cons_succ]
              refine wpAnyH_take (i := 4) (oi := { dst := some 110, op := Op.load 3 (Operand.tmp 109), type := 3, pos := "ref.go:336", after := #[{ on := 3, ground := Ground.data }], guard := none }) (v := ?vn5k4) rfl (by kernel_rfl) (by kernel_rfl) (by kernel_rfl) (fun _ _ _ h => h) (Or.inl ⟨by kernel_rfl, ?yn5k4⟩) (by assumption) ?rn5k4
              case yn5k4 => intro w hSw; (try dsimp only at hSw); go_simp; try with_reducible rfl
              try simp only [Act.put, List.setIfInBounds_toArray, List.set_cons_zero, List.set_cons_succ]
              refine wpAnyH_take (i := 6) (oi := { dst := some 112, op := Op.move (Operand.tmp 7), type := 23, pos := "ref.go:336", after := #[], guard := none }) (v := ?vn6k6) rfl (by kernel_rfl) (by kernel_rfl) (by kernel_rfl) (fun _ _ _ h => h) (Or.inl ⟨by kernel_rfl, ?yn6k6⟩) (by assumption) ?rn6k6
              case yn6k6 => intro w hSw; (try dsimp only at hSw); go_simp; try with_reducible rfl
              try simp only [Act.put, List.setIfInBounds_toArray, List.set_cons_zero, List.set_cons_succ]
              refine wpAnyH_take (i := 7) (oi := { dst := some 113, op := Op.move (Operand.tmp 9), type := 23, pos := "ref.go:336", after := #[], guard := none }) (v := ?vn7k7) rfl (by kernel_rfl) (by kernel_rfl) (by kernel_rfl) (fun _ _ _ h => h) (Or.inl ⟨by kernel_rfl, ?yn7k7⟩) (by assumption) ?rn7k7
              case yn7k7 => intro w hSw; (try dsimp only at hSw); go_simp; try with_reducible rfl
              try simp only [Act.put, List.setIfInBounds_toArray, List.set_cons_zero, List.set_cons_succ]
              refine wpAnyH_take (i := 8) (oi := { dst := some 114, op := Op.move (Operand.tmp 10), type := 3, pos := "ref.go:336", after := #[], guard := none }) (v := ?vn8k8) rfl (by kernel_rfl) (by kernel_rfl) (by kernel_rfl) (fun _ _ _ h => h) (Or.inl ⟨by kernel_rfl, ?yn8k8⟩) (by assumption) ?rn8k8
              case yn8k8 => intro w hSw; (try dsimp only at hSw); go_simp; try with_reducible rfl
              try simp only [Act.put, List.setIfInBounds_toArray, List.set_cons_zero, List.set_cons_succ]
              refine wpAnyH_take (i := 9) (oi := { dst := some 115, op := Op.indexAddr 23 (Operand.tmp 113) (Operand.tmp 114), type := 0, pos := "ref.go:336", after := #[{ on := 7, ground := Ground.data }, { on := 8, ground := Ground.data }], guard := none }) (v := ?vn9k9) rfl (by kernel_rfl) (by kernel_rfl) (by kernel_rfl) (fun _ _ _ h => h) (Or.inl ⟨by kernel_rfl, ?yn9k9⟩) (by assumption) ?rn9k9
              case yn9k9 => intro w hSw; (try dsimp only at hSw); go_simp; try with_reducible rfl
              try simp only [Act.put, List.setIfInBounds_toArray, List.set_cons_zero, List.set_cons_succ]
              refine wpAnyH_take (i := 10) (oi := { dst := some 116, op := Op.load 3 (Operand.tmp 115), type := 3, pos := "ref.go:336", after := #[{ on := 9, ground := Ground.data }], guard := none }) (v := ?vn10k10) rfl (by kernel_rfl) (by kernel_rfl) (by kernel_rfl) (fun _ _ _ h => h) (Or.inl ⟨by kernel_rfl, ?yn10k10⟩) (by assumption) ?rn10k10
              case yn10k10 => intro w hSw; (try dsimp only at hSw); go_simp; try with_reducible rfl
              try simp only [Act.put, List.setIfInBounds_toArray, List.set_cons_zero, List.set_cons_succ]
              refine wpAnyH_take (i := 12) (oi := { dst := some 118, op := Op.move (Operand.tmp 8), type := 23, pos := "ref.go:336", after := #[], guard := none }) (v := ?vn11k12) rfl (by kernel_rfl) (by kernel_rfl) (by kernel_rfl) (fun _ _ _ h => h) (Or.inl ⟨by kernel_rfl, ?yn11k12⟩) (by assumption) ?rn11k12
              case yn11k12 => intro w hSw; (try dsimp only at hSw); go_simp; try with_reducible rfl
              try simp only [Act.put, List.setIfInBounds_toArray, List.set_cons_zero, List.set_cons_succ]
              refine wpAnyH_take (i := 13) (oi := { dst := some 119, op := Op.move (Operand.tmp 9), type := 23, pos := "ref.go:336", after := #[], guard := none }) (v := ?vn12k13) rfl (by kernel_rfl) (by kernel_rfl) (by kernel_rfl) (fun _ _ _ h => h) (Or.inl ⟨by kernel_rfl, ?yn12k13⟩) (by assumption) ?rn12k13
              case yn12k13 => intro w hSw; (try dsimp only at hSw); go_simp; try with_reducible rfl
              try simp only [Act.put, List.setIfInBounds_toArray, List.set_cons_zero, List.set_cons_succ]
              refine wpAnyH_take (i := 14) (oi := { dst := some 120, op := Op.move (Operand.tmp 10), type := 3, pos := "ref.go:336", after := #[], guard := none }) (v := ?vn13k14) rfl (by kernel_rfl) (by kernel_rfl) (by kernel_rfl) (fun _ _ _ h => h) (Or.inl ⟨by kernel_rfl, ?yn13k14⟩) (by assumption) ?rn13k14
              case yn13k14 => intro w hSw; (try dsimp only at hSw); go_simp; try with_reducible rfl
              try simp only [Act.put, List.setIfInBounds_toArray, List.set_cons_zero, List.set_cons_succ]
              refine wpAnyH_take (i := 15) (oi := { dst := some 121, op := Op.indexAddr 23 (Operand.tmp 119) (Operand.tmp 120), type := 0, pos := "ref.go:336", after := #[{ on := 13, ground := Ground.data }, { on := 14, ground := Ground.data }], guard := none }) (v := ?vn14k15) rfl (by kernel_rfl) (by kernel_rfl) (by kernel_rfl) (fun _ _ _ h => h) (Or.inl ⟨by kernel_rfl, ?yn14k15⟩) (by assumption) ?rn14k15
              case yn14k15 => intro w hSw; (try dsimp only at hSw); go_simp; try with_reducible rfl
              try simp only [Act.put, List.setIfInBounds_toArray, List.set_cons_zero, List.set_cons_succ]
              refine wpAnyH_take (i := 16) (oi := { dst := some 122, op := Op.load 3 (Operand.tmp 121), type := 3, pos := "ref.go:336", after := #[{ on := 15, ground := Ground.data }], guard := none }) (v := ?vn15k16) rfl (by kernel_rfl) (by kernel_rfl) (by kernel_rfl) (fun _ _ _ h => h) (Or.inl ⟨by kernel_rfl, ?yn15k16⟩) (by assumption) ?rn15k16
              case yn15k16 => intro w hSw; (try dsimp only at hSw); go_simp; try with_reducible rfl
              try simp only [Act.put, List.setIfInBounds_toArray, List.set_cons_zero, List.set_cons_succ]
              refine wpAnyH_ready (rs := [5]) (by kernel_rfl) (by simp) (AllReadyH.cons (o := { dst := some 111, op := Op.call { callee := Callee.value (Operand.func 90), args := #[Operand.tmp 106, Operand.tmp 110], argTypes := #[23, 3] }, type := 4, pos := "ref.go:336", after := #[{ on := 0, ground := Ground.data }, { on := 4, ground := Ground.data }], guard := none }) rfl (fun K hK => ?_) AllReadyH.nil)
              go_simp
              refine (QX2.out _ D9.out).mono ?_
              rintro e w9 ⟨rfl, rfl⟩
              clear hHeld
              refine hK.out _ _ (by assumption) (fun hHeld => ?_)
              clear hK K
              try simp only [Act.put, List.setIfInBounds_toArray, List.set_cons_zero, List.set_cons_succ]
              refine wpAnyH_ready (rs := [11]) (by kernel_rfl) (by simp) (AllReadyH.cons (o := { dst := some 117, op := Op.call { callee := Callee.value (Operand.func 90), args := #[Operand.tmp 112, Operand.tmp 116], argTypes := #[23, 3] }, type := 4, pos := "ref.go:336", after := #[{ on := 6, ground := Ground.data }, { on := 10, ground := Ground.data }, { on := 5, ground := Ground.chain }], guard := none }) rfl (fun K hK => ?_) AllReadyH.nil)
              go_simp
              refine (QY2.out _ D9.out).mono ?_
              rintro e w9 ⟨rfl, rfl⟩
              clear hHeld
              refine hK.out _ _ (by assumption) (fun hHeld => ?_)
              clear hK K
              try simp only [Act.put, List.setIfInBounds_toArray, List.set_cons_zero, List.set_cons_succ]
              refine wpAnyH_ready (rs := [17]) (by kernel_rfl) (by simp) (AllReadyH.cons (o := { dst := some 123, op := Op.call { callee := Callee.value (Operand.func 90), args := #[Operand.tmp 118, Operand.tmp 122], argTypes := #[23, 3] }, type := 4, pos := "ref.go:336", after := #[{ on := 12, ground := Ground.data }, { on := 16, ground := Ground.data }, { on := 11, ground := Ground.chain }], guard := none }) rfl (fun K hK => ?_) AllReadyH.nil)
              go_simp
              refine (QZ2.out _ D9.out).mono ?_
              rintro e w9 ⟨rfl, rfl⟩
              clear hHeld
              refine hK.out _ _ (by assumption) (fun hHeld => ?_)
              clear hK K
              try simp only [Act.put, List.setIfInBounds_toArray, List.set_cons_zero, List.set_cons_succ]
              refine wpAnyH_take (i := 18) (oi := { dst := some 11, op := Op.assign (Operand.tmp 111), type := 4, pos := "ref.go:336", after := #[{ on := 5, ground := Ground.data }, { on := 17, ground := Ground.chain }, { on := 0, ground := Ground.phase }, { on := 1, ground := Ground.phase }, { on := 2, ground := Ground.phase }, { on := 3, ground := Ground.phase }, { on := 4, ground := Ground.phase }, { on := 5, ground := Ground.phase }, { on := 6, ground := Ground.textOnly Departure.lateStores }, { on := 7, ground := Ground.textOnly Departure.lateStores }, { on := 8, ground := Ground.textOnly Departure.lateStores }, { on := 9, ground := Ground.textOnly Departure.lateStores }, { on := 10, ground := Ground.textOnly Departure.lateStores }, { on := 11, ground := Ground.textOnly Departure.lateStoresUnsure }, { on := 12, ground := Ground.textOnly Departure.lateStores }, { on := 13, ground := Ground.textOnly Departure.lateStores }, { on := 14, ground := Ground.textOnly Departure.lateStores }, { on := 15, ground := Ground.textOnly Departure.lateStores }, { on := 16, ground := Ground.textOnly Departure.lateStores }, { on := 17, ground := Ground.textOnly Departure.lateStoresUnsure }], guard := none }) (v := ?vn16k18) rfl (by kernel_rfl) (by kernel_rfl) (by kernel_rfl) (fun _ _ _ h => h) (Or.inl ⟨by kernel_rfl, ?yn16k18⟩) (by assumption) ?rn16k18
              case yn16k18 => intro w hSw; (try dsimp only at hSw); go_simp; try with_reducible rfl
              try simp only [Act.put, List.setIfInBounds_toArray, List.set_cons_zero, List.set_cons_succ]
              refine wpAnyH_take (i := 19) (oi := { dst := some 12, op := Op.assign (Operand.tmp 117), type := 4, pos := "ref.go:336", after := #[{ on := 11, ground := Ground.data }, { on := 18, ground := Ground.chain }, { on := 0, ground := Ground.phase }, { on := 1, ground := Ground.phase }, { on := 2, ground := Ground.phase }, { on := 3, ground := Ground.phase }, { on := 4, ground := Ground.phase }, { on := 5, ground := Ground.phase }, { on := 6, ground := Ground.phase }, { on := 7, ground := Ground.phase }, { on := 8, ground := Ground.phase }, { on := 9, ground := Ground.phase }, { on := 10, ground := Ground.phase }, { on := 11, ground := Ground.phase }, { on := 12, ground := Ground.textOnly Departure.lateStores }, { on := 13, ground := Ground.textOnly Departure.lateStores }, { on := 14, ground := Ground.textOnly Departure.lateStores }, { on := 15, ground := Ground.textOnly Departure.lateStores }, { on := 16, ground := Ground.textOnly Departure.lateStores }, { on := 17, ground := Ground.textOnly Departure.lateStoresUnsure }, { on := 18, ground := Ground.phase }], guard := none }) (v := ?vn17k19) rfl (by kernel_rfl) (by kernel_rfl) (by kernel_rfl) (fun _ _ _ h => h) (Or.inl ⟨by kernel_rfl, ?yn17k19⟩) (by assumption) ?rn17k19
              case yn17k19 => intro w hSw; (try dsimp only at hSw); go_simp; try with_reducible rfl
              try simp only [Act.put, List.setIfInBounds_toArray, List.set_cons_zero, List.set_cons_succ]
              refine wpAnyH_take (i := 20) (oi := { dst := some 13, op := Op.assign (Operand.tmp 123), type := 4, pos := "ref.go:336", after := #[{ on := 17, ground := Ground.data }, { on := 19, ground := Ground.chain }, { on := 0, ground := Ground.phase }, { on := 1, ground := Ground.phase }, { on := 2, ground := Ground.phase }, { on := 3, ground := Ground.phase }, { on := 4, ground := Ground.phase }, { on := 5, ground := Ground.phase }, { on := 6, ground := Ground.phase }, { on := 7, ground := Ground.phase }, { on := 8, ground := Ground.phase }, { on := 9, ground := Ground.phase }, { on := 10, ground := Ground.phase }, { on := 11, ground := Ground.phase }, { on := 12, ground := Ground.phase }, { on := 13, ground := Ground.phase }, { on := 14, ground := Ground.phase }, { on := 15, ground := Ground.phase }, { on := 16, ground := Ground.phase }, { on := 17, ground := Ground.phase }, { on := 18, ground := Ground.phase }, { on := 19, ground := Ground.phase }], guard := none }) (v := ?vn18k20) rfl (by kernel_rfl) (by kernel_rfl) (by kernel_rfl) (fun _ _ _ h => h) (Or.inl ⟨by kernel_rfl, ?yn18k20⟩) (by assumption) ?rn18k20
              case yn18k20 => intro w hSw; (try dsimp only at hSw); go_simp; try with_reducible rfl
              try simp only [Act.put, List.setIfInBounds_toArray, List.set_cons_zero, List.set_cons_succ]
              refine wpAnyH_done (by kernel_rfl) ?_ _
              cases X <;> cases Y <;> cases Z
              all_goals go_wp2_with fail
              all_goals first
                | (have FV := Lib.hid (show F x = true from FX.out)
                   go_roundw
                   case rel => exact ⟨q + 1, by omega, by go_num, by rw [HALL.out, FV.out]; rfl, HBX.out.trans ((drewN_below wr _).mono HBX.out.size)⟩
                   case measure => simp [intOf]; omega)
                | (have FV := Lib.hid (show F x = false from FX.out)
                   go_ret
                   exact ⟨by rw [← KX.out, HALL.out, FV.out]; rfl, BWQ.out _ (BX9.out.trans ((drewN_below wr _).mono BX9.out.size))⟩)
            · obtain rfl : q = L.length := by omega
              rw [List.drop_length] at hall
              have HALL := Lib.hid hall
              clear hall
              go_wp2_with fail
              go_ret
              exact ⟨by rw [← KX.out, HALL.out]; rfl, BWQ.out _ BX9.out⟩
        | meet =>
          obtain ⟨q1, q2, _⟩ := hmm
          injection q1 with q1
          have hlen : vs.length = 3 := by omega
          simp only [Kd.is] at h0 h1 h2 h3 h4 h5 h6 h7
          have y1 := YB.out.2.1 _ HBW.out
          rw [hlen] at y1
          obtain ⟨t0, P0, k0, X0, T0, L0, I0, A0, Z0, E0⟩ := SV.out 0 (by omega)
          simp only [Nat.add_zero] at X0
          have x0 := (BW.out.cell (p := ⟨b1, o1, none⟩) hb1').trans X0
          have l0 := (BW.out.cell (p := ⟨b2, o2 + t0, none⟩) hb2').trans L0
          have u0 : (t0 : Int) < (ls.length : Int) := by omega
          have v0 : (0 : Int) ≤ (t0 : Int) := by omega
          obtain ⟨t1, P1, k1, X1, T1, L1, I1, A1, Z1, E1⟩ := SV.out 1 (by omega)
          have x1 := (BW.out.cell (p := ⟨b1, o1 + 1, none⟩) hb1').trans X1
          have l1 := (BW.out.cell (p := ⟨b2, o2 + t1, none⟩) hb2').trans L1
          have u1 : (t1 : Int) < (ls.length : Int) := by omega
          have v1 : (0 : Int) ≤ (t1 : Int) := by omega
          obtain ⟨t2, P2, k2, X2, T2, L2, I2, A2, Z2, E2⟩ := SV.out 2 (by omega)
          have x2 := (BW.out.cell (p := ⟨b1, o1 + 2, none⟩) hb1').trans X2
          have l2 := (BW.out.cell (p := ⟨b2, o2 + t2, none⟩) hb2').trans L2
          have u2 : (t2 : Int) < (ls.length : Int) := by omega
          have v2 : (0 : Int) ≤ (t2 : Int) := by omega
          obtain ⟨a, ha⟩ : ∃ l, nthL ls (vs.getD 0 0) = l := ⟨_, rfl⟩
          rw [ha] at l0 I0 A0 E0
          obtain ⟨b, hb⟩ : ∃ l, nthL ls (vs.getD 1 0) = l := ⟨_, rfl⟩
          rw [hb] at l1 I1 A1 E1
          obtain ⟨c, hc⟩ : ∃ l, nthL ls (vs.getD 2 0) = l := ⟨_, rfl⟩
          rw [hc] at l2 I2 A2 E2
          have ER := HR2.out
          rw [ha, hb, hc] at ER
          have II := Lib.hid (And.intro I0 (And.intro I1 I2))
          have ZZ := Lib.hid (And.intro Z0 (And.intro Z1 Z2))
          have AA := Lib.hid (And.intro A0 A2)
          have EE := Lib.hid (And.intro E0 (And.intro E1 E2))
          have ERH := Lib.hid ER
          clear ER ha hb hc q1 q2 hlen HR2 SV X0 T0 L0 I0 A0 Z0 E0 X1 T1 L1 I1 A1 Z1 E1 X2 T2 L2 I2 A2 Z2 E2
          have QX := Lib.hid (fun n w1 (q : Below w.heap.size w w1) => has_same a n P0 k0 w1 (II.out.1.over q))
          have QY := Lib.hid (fun n w1 (q : Below w.heap.size w w1) => has_same b n P1 k1 w1 (II.out.2.1.over q))
          have QZ := Lib.hid (fun n w1 (q : Below w.heap.size w w1) => has_same c n P2 k2 w1 (II.out.2.2.over q))
          have KR := Lib.hid (show kindR .meet a b c N = kindB .meet a b c N from kind_eq .meet a b c N AA.out.1 AA.out.2 (by intro h; cases h))
          repeat ((fail_if_success (at_builtin; refine wpList_append_ints rfl _ _ rfl wr.heap.size _ [] rfl (World.ownsRow_nil _ _ _ _) P0 k0 a rfl (II.out.1.over BW.out) ZZ.out.1 ?_ (Nat.le_refl _) ?_)); go_step)
          (at_builtin; refine wpList_append_ints rfl _ _ rfl wr.heap.size _ [] rfl (World.ownsRow_nil _ _ _ _) P0 k0 a rfl (II.out.1.over BW.out) ZZ.out.1 (by have := EE.out.1; simp; omega) (Nat.le_refl _) ?_; intro v1 w1 ho1 hg1; have HO1 := Lib.hid ho1; have HG1 := Lib.hid (Below.grown (Below.refl wr.heap.size wr) hg1 (Nat.le_refl _) (fun k e => by cases e)); clear ho1 hg1)
          repeat ((fail_if_success at_builtin); go_step)
          (at_builtin; refine wpList_append_ints rfl _ _ rfl wr.heap.size _ _ rfl HO1.out P1 k1 b rfl (II.out.2.1.over (BWQ.out _ HG1.out)) ZZ.out.2.1 (by have := EE.out; simp; omega) HG1.out.size ?_; intro v2 w2 ho2 hg2; have HO2 := Lib.hid ho2; have HG2 := Lib.hid (Below.grown HG1.out hg2 HG1.out.size (fun k e => (HO1.out.lt k e).1)); clear ho2 hg2 HO1)
          repeat ((fail_if_success at_builtin); go_step)
          (at_builtin; refine wpList_append_ints rfl _ _ rfl wr.heap.size _ _ rfl HO2.out P2 k2 c rfl (II.out.2.2.over (BWQ.out _ HG2.out)) ZZ.out.2.2 (by have := EE.out; simp; omega) HG2.out.size ?_; intro v3 w3 ho3 hg3; have HG3 := Lib.hid (Below.grown HG2.out hg3 HG2.out.size (fun k e => (HO2.out.lt k e).1)); obtain ⟨G9, k9, rfl, I9⟩ := ints_of_owns ho3 (by have := EE.out; simp; omega) (by intro x hx; simp only [List.nil_append, List.mem_append] at hx; rcases hx with (hx | hx) | hx; exact II.out.1.2.1 x hx; exact II.out.2.1.2.1 x hx; exact II.out.2.2.2.1 x hx); have hL9 := I9.1; generalize hL : ([] ++ a ++ b ++ c : List Int) = L at *; have HL := Lib.hid hL; have HI9 := Lib.hid I9; clear hL; have e0 := YB.out.1 _ (BWR.out _ HG3.out); have e2 := YB.out.2.2 _ (BWR.out _ HG3.out); clear ho3 hg3 HO2 I9)
          go_wp2_with fail
          have KX := Lib.hid (show (L.all fun x => elemB .meet (a.contains x) (b.contains x) (c.contains x)) = R from by rw [← HL.out]; exact KR.out.trans ERH.out)
          obtain ⟨F, hF⟩ : ∃ F : Int → Bool, (fun x => elemB .meet (a.contains x) (b.contains x) (c.contains x)) = F := ⟨_, rfl⟩
          rw [hF] at KX
          have FE := Lib.hid (show ∀ x, F x = elemB .meet (a.contains x) (b.contains x) (c.contains x) from fun x => by rw [← hF])
          clear hF KR ERH HL
          go_loopw [10, 11, 12, 13] (fun i _ _ _ WQ => ∃ q : Nat, q ≤ L.length ∧ i = .int .i64 q ∧ L.all F = (L.drop q).all F ∧ Below w3.heap.size w3 WQ) (fun i _ _ _ _ => L.length - (intOf i).toNat)
          case atStart => exact ⟨0, Nat.zero_le _, rfl, by simp, Below.refl _ _⟩
          case round =>
            obtain ⟨q, hq, rfl, hall, hbw⟩ := hrel
            have HBX := Lib.hid hbw
            have BX9 := Lib.hid (HG3.out.trans (hbw.mono HG3.out.size))
            clear hbw e0
            have e0 := YB.out.1 _ (BWR.out _ BX9.out)
            by_cases hlt : q < L.length
            · obtain ⟨g9, o9, rfl, hg9, G9'⟩ := HI9.out.2.2 (by omega)
              have x9 := (HBX.out.cell (p := ⟨g9, o9 + q, none⟩) hg9).trans (G9' q hlt)
              rw [List.drop_eq_getElem_cons hlt, List.all_cons] at hall
              have HALL := Lib.hid hall
              have z1 : (q : Int) < (L.length : Int) := by omega
              have z2 : (0 : Int) ≤ (q : Int) := by omega
              clear hall G9'
              generalize L[q] = x at *
              have FX := Lib.hid (FE.out x)
              have QX2 := Lib.hid (QX.out x)
              have QY2 := Lib.hid (QY.out x)
              have QZ2 := Lib.hid (QZ.out x)
              clear QX QY QZ FE
              generalize a.contains x = X at *
              generalize b.contains x = Y at *
              generalize c.contains x = Z at *
              have D9 := Lib.hid (show Below w.heap.size w wr.drew from (BWQ.out _ BX9.out).trans ⟨rfl, rfl, rfl, Nat.le_refl _, fun _ _ => rfl⟩)
              have x9d : (fun (wx : World) => wx.cell? ⟨g9, o9 + q, none⟩ = some (.int .i64 x)) wr.drew := x9
              go_wp2_with fail
              refine wp_region_held_drew (S := fun (wx : World) => wx.cell? ⟨g9, o9 + q, none⟩ = some (.int .i64 x)) (by kernel_rfl) x9d (fun hHeld => ?_)
              refine wpAnyH_take (i := 0) (oi := { dst := some 106, op := Op.move (Operand.tmp 6), type := 23, pos := "ref.go:336", after := #[], guard := none }) (v := ?vn19k0) rfl (by kernel_rfl) (by kernel_rfl) (by kernel_rfl) (fun _ _ _ h => h) (Or.inl ⟨by kernel_rfl, ?yn19k0⟩) (by assumption) ?rn19k0
              case yn19k0 => intro w hSw; (try dsimp only at hSw); go_simp; try with_reducible rfl
              try simp only [Act.put, List.setIfInBounds_toArray, List.set_cons_zero, List.set_cons_succ]
              refine wpAnyH_take (i := 1) (oi := { dst := some 107, op := Op.move (Operand.tmp 9), type := 23, pos := "ref.go:336", after := #[], guard := none }) (v := ?vn20k1) rfl (by kernel_rfl) (by kernel_rfl) (by kernel_rfl) (fun _ _ _ h => h) (Or.inl ⟨by kernel_rfl, ?yn20k1⟩) (by assumption) ?rn20k1
              case yn20k1 => intro w hSw; (try dsimp only at hSw); go_simp; try with_reducible rfl
              try simp only [Act.put, List.setIfInBounds_toArray, List.set_cons_zero, List.set_cons_succ]
              refine wpAnyH_take (i := 2) (oi := { dst := some 108, op := Op.move (Operand.tmp 10), type := 3, pos := "ref.go:336", after := #[], guard := none }) (v := ?vn21k2) rfl (by kernel_rfl) (by kernel_rfl) (by kernel_rfl) (fun _ _ _ h => h) (Or.inl ⟨by kernel_rfl, ?yn21k2⟩) (by assumption) ?rn21k2
              case yn21k2 => intro w hSw; (try dsimp only at hSw); go_simp; try with_reducible rfl
              try simp only [Act.put, List.setIfInBounds_toArray, List.set_cons_zero, List.set_cons_succ]
              refine wpAnyH_take (i := 3) (oi := { dst := some 109, op := Op.indexAddr 23 (Operand.tmp 107) (Operand.tmp 108), type := 0, pos := "ref.go:336", after := #[{ on := 1, ground := Ground.data }, { on := 2, ground := Ground.data }], guard := none }) (v := ?vn22k3) rfl (by kernel_rfl) (by kernel_rfl) (by kernel_rfl) (fun _ _ _ h => h) (Or.inl ⟨by kernel_rfl, ?yn22k3⟩) (by assumption) ?rn22k3
              case yn22k3 => intro w hSw; (try dsimp only at hSw); go_simp; try with_reducible rfl
              try simp only [Act.put, List.setIfInBounds_toArray, List.set_cons_zero, List.set_cons_succ]
              refine wpAnyH_take (i := 4) (oi := { dst := some 110, op := Op.load 3 (Operand.tmp 109), type := 3, pos := "ref.go:336", after := #[{ on := 3, ground := Ground.data }], guard := none }) (v := ?vn23k4) rfl (by kernel_rfl) (by kernel_rfl) (by kernel_rfl) (fun _ _ _ h => h) (Or.inl ⟨by kernel_rfl, ?yn23k4⟩) (by assumption) ?rn23k4
              case yn23k4 => intro w hSw; (try dsimp only at hSw); go_simp; try with_reducible rfl
              try simp only [Act.put, List.setIfInBounds_toArray, List.set_cons_zero, List.set_cons_succ]
              refine wpAnyH_take (i := 6) (oi := { dst := some 112, op := Op.move (Operand.tmp 7), type := 23, pos := "ref.go:336", after := #[], guard := none }) (v := ?vn24k6) rfl (by kernel_rfl) (by kernel_rfl) (by kernel_rfl) (fun _ _ _ h => h) (Or.inl ⟨by kernel_rfl, ?yn24k6⟩) (by assumption) ?rn24k6
              case yn24k6 => intro w hSw; (try dsimp only at hSw); go_simp; try with_reducible rfl
              try simp only [Act.put, List.setIfInBounds_toArray, List.set_cons_zero, List.set_cons_succ]
              refine wpAnyH_take (i := 7) (oi := { dst := some 113, op := Op.move (Operand.tmp 9), type := 23, pos := "ref.go:336", after := #[], guard := none }) (v := ?vn25k7) rfl (by kernel_rfl) (by kernel_rfl) (by kernel_rfl) (fun _ _ _ h => h) (Or.inl ⟨by kernel_rfl, ?yn25k7⟩) (by assumption) ?rn25k7
              case yn25k7 => intro w hSw; (try dsimp only at hSw); go_simp; try with_reducible rfl
              try simp only [Act.put, List.setIfInBounds_toArray, List.set_cons_zero, List.set_cons_succ]
              refine wpAnyH_take (i := 8) (oi := { dst := some 114, op := Op.move (Operand.tmp 10), type := 3, pos := "ref.go:336", after := #[], guard := none }) (v := ?vn26k8) rfl (by kernel_rfl) (by kernel_rfl) (by kernel_rfl) (fun _ _ _ h => h) (Or.inl ⟨by kernel_rfl, ?yn26k8⟩) (by assumption) ?rn26k8
              case yn26k8 => intro w hSw; (try dsimp only at hSw); go_simp; try with_reducible rfl
              try simp only [Act.put, List.setIfInBounds_toArray, List.set_cons_zero, List.set_cons_succ]
              refine wpAnyH_take (i := 9) (oi := { dst := some 115, op := Op.indexAddr 23 (Operand.tmp 113) (Operand.tmp 114), type := 0, pos := "ref.go:336", after := #[{ on := 7, ground := Ground.data }, { on := 8, ground := Ground.data }], guard := none }) (v := ?vn27k9) rfl (by kernel_rfl) (by kernel_rfl) (by kernel_rfl) (fun _ _ _ h => h) (Or.inl ⟨by kernel_rfl, ?yn27k9⟩) (by assumption) ?rn27k9
              case yn27k9 => intro w hSw; (try dsimp only at hSw); go_simp; try with_reducible rfl
              try simp only [Act.put, List.setIfInBounds_toArray, List.set_cons_zero, List.set_cons_succ]
              refine wpAnyH_take (i := 10) (oi := { dst := some 116, op := Op.load 3 (Operand.tmp 115), type := 3, pos := "ref.go:336", after := #[{ on := 9, ground := Ground.data }], guard := none }) (v := ?vn28k10) rfl (by kernel_rfl) (by kernel_rfl) (by kernel_rfl) (fun _ _ _ h => h) (Or.inl ⟨by kernel_rfl, ?yn28k10⟩) (by assumption) ?rn28k10
              case yn28k10 => intro w hSw; (try dsimp only at hSw); go_simp; try with_reducible rfl
              try simp only [Act.put, List.setIfInBounds_toArray, List.set_cons_zero, List.set_cons_succ]
              refine wpAnyH_take (i := 12) (oi := { dst := some 118, op := Op.move (Operand.tmp 8), type := 23, pos := "ref.go:336", after := #[], guard := none }) (v := ?vn29k12) rfl (by kernel_rfl) (by kernel_rfl) (by kernel_rfl) (fun _ _ _ h => h) (Or.inl ⟨by kernel_rfl, ?yn29k12⟩) (by assumption) ?rn29k12
              case yn29k12 => intro w hSw; (try dsimp only at hSw); go_simp; try with_reducible rfl
              try simp only [Act.put, List.setIfInBounds_toArray, List.set_cons_zero, List.set_cons_succ]
              refine wpAnyH_take (i := 13) (oi := { dst := some 119, op := Op.move (Operand.tmp 9), type := 23, pos := "ref.go:336", after := #[], guard := none }) (v := ?vn30k13) rfl (by kernel_rfl) (by kernel_rfl) (by kernel_rfl) (fun _ _ _ h => h) (Or.inl ⟨by kernel_rfl, ?yn30k13⟩) (by assumption) ?rn30k13
              case yn30k13 => intro w hSw; (try dsimp only at hSw); go_simp; try with_reducible rfl
              try simp only [Act.put, List.setIfInBounds_toArray, List.set_cons_zero, List.set_cons_succ]
              refine wpAnyH_take (i := 14) (oi := { dst := some 120, op := Op.move (Operand.tmp 10), type := 3, pos := "ref.go:336", after := #[], guard := none }) (v := ?vn31k14) rfl (by kernel_rfl) (by kernel_rfl) (by kernel_rfl) (fun _ _ _ h => h) (Or.inl ⟨by kernel_rfl, ?yn31k14⟩) (by assumption) ?rn31k14
              case yn31k14 => intro w hSw; (try dsimp only at hSw); go_simp; try with_reducible rfl
              try simp only [Act.put, List.setIfInBounds_toArray, List.set_cons_zero, List.set_cons_succ]
              refine wpAnyH_take (i := 15) (oi := { dst := some 121, op := Op.indexAddr 23 (Operand.tmp 119) (Operand.tmp 120), type := 0, pos := "ref.go:336", after := #[{ on := 13, ground := Ground.data }, { on := 14, ground := Ground.data }], guard := none }) (v := ?vn32k15) rfl (by kernel_rfl) (by kernel_rfl) (by kernel_rfl) (fun _ _ _ h => h) (Or.inl ⟨by kernel_rfl, ?yn32k15⟩) (by assumption) ?rn32k15
              case yn32k15 => intro w hSw; (try dsimp only at hSw); go_simp; try with_reducible rfl
              try simp only [Act.put, List.setIfInBounds_toArray, List.set_cons_zero, List.set_cons_succ]
              refine wpAnyH_take (i := 16) (oi := { dst := some 122, op := Op.load 3 (Operand.tmp 121), type := 3, pos := "ref.go:336", after := #[{ on := 15, ground := Ground.data }], guard := none }) (v := ?vn33k16) rfl (by kernel_rfl) (by kernel_rfl) (by kernel_rfl) (fun _ _ _ h => h) (Or.inl ⟨by kernel_rfl, ?yn33k16⟩) (by assumption) ?rn33k16
              case yn33k16 => intro w hSw; (try dsimp only at hSw); go_simp; try with_reducible rfl
              try simp only [Act.put, List.setIfInBounds_toArray, List.set_cons_zero, List.set_cons_succ]
              refine wpAnyH_ready (rs := [5]) (by kernel_rfl) (by simp) (AllReadyH.cons (o := { dst := some 111, op := Op.call { callee := Callee.value (Operand.func 90), args := #[Operand.tmp 106, Operand.tmp 110], argTypes := #[23, 3] }, type := 4, pos := "ref.go:336", after := #[{ on := 0, ground := Ground.data }, { on := 4, ground := Ground.data }], guard := none }) rfl (fun K hK => ?_) AllReadyH.nil)
              go_simp
              refine (QX2.out _ D9.out).mono ?_
              rintro e w9 ⟨rfl, rfl⟩
              clear hHeld
              refine hK.out _ _ (by assumption) (fun hHeld => ?_)
              clear hK K
              try simp only [Act.put, List.setIfInBounds_toArray, List.set_cons_zero, List.set_cons_succ]
              refine wpAnyH_ready (rs := [11]) (by kernel_rfl) (by simp) (AllReadyH.cons (o := { dst := some 117, op := Op.call { callee := Callee.value (Operand.func 90), args := #[Operand.tmp 112, Operand.tmp 116], argTypes := #[23, 3] }, type := 4, pos := "ref.go:336", after := #[{ on := 6, ground := Ground.data }, { on := 10, ground := Ground.data }, { on := 5, ground := Ground.chain }], guard := none }) rfl (fun K hK => ?_) AllReadyH.nil)
              go_simp
              refine (QY2.out _ D9.out).mono ?_
              rintro e w9 ⟨rfl, rfl⟩
              clear hHeld
              refine hK.out _ _ (by assumption) (fun hHeld => ?_)
              clear hK K
              try simp only [Act.put, List.setIfInBounds_toArray, List.set_cons_zero, List.set_cons_succ]
              refine wpAnyH_ready (rs := [17]) (by kernel_rfl) (by simp) (AllReadyH.cons (o := { dst := some 123, op := Op.call { callee := Callee.value (Operand.func 90), args := #[Operand.tmp 118, Operand.tmp 122], argTypes := #[23, 3] }, type := 4, pos := "ref.go:336", after := #[{ on := 12, ground := Ground.data }, { on := 16, ground := Ground.data }, { on := 11, ground := Ground.chain }], guard := none }) rfl (fun K hK => ?_) AllReadyH.nil)
              go_simp
              refine (QZ2.out _ D9.out).mono ?_
              rintro e w9 ⟨rfl, rfl⟩
              clear hHeld
              refine hK.out _ _ (by assumption) (fun hHeld => ?_)
              clear hK K
              try simp only [Act.put, List.setIfInBounds_toArray, List.set_cons_zero, List.set_cons_succ]
              refine wpAnyH_take (i := 18) (oi := { dst := some 11, op := Op.assign (Operand.tmp 111), type := 4, pos := "ref.go:336", after := #[{ on := 5, ground := Ground.data }, { on := 17, ground := Ground.chain }, { on := 0, ground := Ground.phase }, { on := 1, ground := Ground.phase }, { on := 2, ground := Ground.phase }, { on := 3, ground := Ground.phase }, { on := 4, ground := Ground.phase }, { on := 5, ground := Ground.phase }, { on := 6, ground := Ground.textOnly Departure.lateStores }, { on := 7, ground := Ground.textOnly Departure.lateStores }, { on := 8, ground := Ground.textOnly Departure.lateStores }, { on := 9, ground := Ground.textOnly Departure.lateStores }, { on := 10, ground := Ground.textOnly Departure.lateStores }, { on := 11, ground := Ground.textOnly Departure.lateStoresUnsure }, { on := 12, ground := Ground.textOnly Departure.lateStores }, { on := 13, ground := Ground.textOnly Departure.lateStores }, { on := 14, ground := Ground.textOnly Departure.lateStores }, { on := 15, ground := Ground.textOnly Departure.lateStores }, { on := 16, ground := Ground.textOnly Departure.lateStores }, { on := 17, ground := Ground.textOnly Departure.lateStoresUnsure }], guard := none }) (v := ?vn34k18) rfl (by kernel_rfl) (by kernel_rfl) (by kernel_rfl) (fun _ _ _ h => h) (Or.inl ⟨by kernel_rfl, ?yn34k18⟩) (by assumption) ?rn34k18
              case yn34k18 => intro w hSw; (try dsimp only at hSw); go_simp; try with_reducible rfl
              try simp only [Act.put, List.setIfInBounds_toArray, List.set_cons_zero, List.set_cons_succ]
              refine wpAnyH_take (i := 19) (oi := { dst := some 12, op := Op.assign (Operand.tmp 117), type := 4, pos := "ref.go:336", after := #[{ on := 11, ground := Ground.data }, { on := 18, ground := Ground.chain }, { on := 0, ground := Ground.phase }, { on := 1, ground := Ground.phase }, { on := 2, ground := Ground.phase }, { on := 3, ground := Ground.phase }, { on := 4, ground := Ground.phase }, { on := 5, ground := Ground.phase }, { on := 6, ground := Ground.phase }, { on := 7, ground := Ground.phase }, { on := 8, ground := Ground.phase }, { on := 9, ground := Ground.phase }, { on := 10, ground := Ground.phase }, { on := 11, ground := Ground.phase }, { on := 12, ground := Ground.textOnly Departure.lateStores }, { on := 13, ground := Ground.textOnly Departure.lateStores }, { on := 14, ground := Ground.textOnly Departure.lateStores }, { on := 15, ground := Ground.textOnly Departure.lateStores }, { on := 16, ground := Ground.textOnly Departure.lateStores }, { on := 17, ground := Ground.textOnly Departure.lateStoresUnsure }, { on := 18, ground := Ground.phase }], guard := none }) (v := ?vn35k19) rfl (by kernel_rfl) (by kernel_rfl) (by kernel_rfl) (fun _ _ _ h => h) (Or.inl ⟨by kernel_rfl, ?yn35k19⟩) (by assumption) ?rn35k19
              case yn35k19 => intro w hSw; (try dsimp only at hSw); go_simp; try with_reducible rfl
              try simp only [Act.put, List.setIfInBounds_toArray, List.set_cons_zero, List.set_cons_succ]
              refine wpAnyH_take (i := 20) (oi := { dst := some 13, op := Op.assign (Operand.tmp 123), type := 4, pos := "ref.go:336", after := #[{ on := 17, ground := Ground.data }, { on := 19, ground := Ground.chain }, { on := 0, ground := Ground.phase }, { on := 1, ground := Ground.phase }, { on := 2, ground := Ground.phase }, { on := 3, ground := Ground.phase }, { on := 4, ground := Ground.phase }, { on := 5, ground := Ground.phase }, { on := 6, ground := Ground.phase }, { on := 7, ground := Ground.phase }, { on := 8, ground := Ground.phase }, { on := 9, ground := Ground.phase }, { on := 10, ground := Ground.phase }, { on := 11, ground := Ground.phase }, { on := 12, ground := Ground.phase }, { on := 13, ground := Ground.phase }, { on := 14, ground := Ground.phase }, { on := 15, ground := Ground.phase }, { on := 16, ground := Ground.phase }, { on := 17, ground := Ground.phase }, { on := 18, ground := Ground.phase }, { on := 19, ground := Ground.phase }], guard := none }) (v := ?vn36k20) rfl (by kernel_rfl) (by kernel_rfl) (by kernel_rfl) (fun _ _ _ h => h) (Or.inl ⟨by kernel_rfl, ?yn36k20⟩) (by assumption) ?rn36k20
              case yn36k20 => intro w hSw; (try dsimp only at hSw); go_simp; try with_reducible rfl
              try simp only [Act.put, List.setIfInBounds_toArray, List.set_cons_zero, List.set_cons_succ]
              refine wpAnyH_done (by kernel_rfl) ?_ _
              cases X <;> cases Y <;> cases Z
              all_goals go_wp2_with fail
              all_goals first
                | (have FV := Lib.hid (show F x = true from FX.out)
                   go_roundw
                   case rel => exact ⟨q + 1, by omega, by go_num, by rw [HALL.out, FV.out]; rfl, HBX.out.trans ((drewN_below wr _).mono HBX.out.size)⟩
                   case measure => simp [intOf]; omega)
                | (have FV := Lib.hid (show F x = false from FX.out)
                   go_ret
                   exact ⟨by rw [← KX.out, HALL.out, FV.out]; rfl, BWQ.out _ (BX9.out.trans ((drewN_below wr _).mono BX9.out.size))⟩)
            · obtain rfl : q = L.length := by omega
              rw [List.drop_length] at hall
              have HALL := Lib.hid hall
              clear hall
              go_wp2_with fail
              go_ret
              exact ⟨by rw [← KX.out, HALL.out]; rfl, BWQ.out _ BX9.out⟩
        | minus =>
          obtain ⟨q1, q2, _⟩ := hmm
          injection q1 with q1
          have hlen : vs.length = 3 := by omega
          simp only [Kd.is] at h0 h1 h2 h3 h4 h5 h6 h7
          have y1 := YB.out.2.1 _ HBW.out
          rw [hlen] at y1
          obtain ⟨t0, P0, k0, X0, T0, L0, I0, A0, Z0, E0⟩ := SV.out 0 (by omega)
          simp only [Nat.add_zero] at X0
          have x0 := (BW.out.cell (p := ⟨b1, o1, none⟩) hb1').trans X0
          have l0 := (BW.out.cell (p := ⟨b2, o2 + t0, none⟩) hb2').trans L0
          have u0 : (t0 : Int) < (ls.length : Int) := by omega
          have v0 : (0 : Int) ≤ (t0 : Int) := by omega
          obtain ⟨t1, P1, k1, X1, T1, L1, I1, A1, Z1, E1⟩ := SV.out 1 (by omega)
          have x1 := (BW.out.cell (p := ⟨b1, o1 + 1, none⟩) hb1').trans X1
          have l1 := (BW.out.cell (p := ⟨b2, o2 + t1, none⟩) hb2').trans L1
          have u1 : (t1 : Int) < (ls.length : Int) := by omega
          have v1 : (0 : Int) ≤ (t1 : Int) := by omega
          obtain ⟨t2, P2, k2, X2, T2, L2, I2, A2, Z2, E2⟩ := SV.out 2 (by omega)
          have x2 := (BW.out.cell (p := ⟨b1, o1 + 2, none⟩) hb1').trans X2
          have l2 := (BW.out.cell (p := ⟨b2, o2 + t2, none⟩) hb2').trans L2
          have u2 : (t2 : Int) < (ls.length : Int) := by omega
          have v2 : (0 : Int) ≤ (t2 : Int) := by omega
          obtain ⟨a, ha⟩ : ∃ l, nthL ls (vs.getD 0 0) = l := ⟨_, rfl⟩
          rw [ha] at l0 I0 A0 E0
          obtain ⟨b, hb⟩ : ∃ l, nthL ls (vs.getD 1 0) = l := ⟨_, rfl⟩
          rw [hb] at l1 I1 A1 E1
          obtain ⟨c, hc⟩ : ∃ l, nthL ls (vs.getD 2 0) = l := ⟨_, rfl⟩
          rw [hc] at l2 I2 A2 E2
          have ER := HR2.out
          rw [ha, hb, hc] at ER
          have II := Lib.hid (And.intro I0 (And.intro I1 I2))
          have ZZ := Lib.hid (And.intro Z0 (And.intro Z1 Z2))
          have AA := Lib.hid (And.intro A0 A2)
          have EE := Lib.hid (And.intro E0 (And.intro E1 E2))
          have ERH := Lib.hid ER
          clear ER ha hb hc q1 q2 hlen HR2 SV X0 T0 L0 I0 A0 Z0 E0 X1 T1 L1 I1 A1 Z1 E1 X2 T2 L2 I2 A2 Z2 E2
          have QX := Lib.hid (fun n w1 (q : Below w.heap.size w w1) => has_same a n P0 k0 w1 (II.out.1.over q))
          have QY := Lib.hid (fun n w1 (q : Below w.heap.size w w1) => has_same b n P1 k1 w1 (II.out.2.1.over q))
          have QZ := Lib.hid (fun n w1 (q : Below w.heap.size w w1) => has_same c n P2 k2 w1 (II.out.2.2.over q))
          have KR := Lib.hid (show kindR .minus a b c N = kindB .minus a b c N from kind_eq .minus a b c N AA.out.1 AA.out.2 (by intro h; cases h))
          repeat ((fail_if_success (at_builtin; refine wpList_append_ints rfl _ _ rfl wr.heap.size _ [] rfl (World.ownsRow_nil _ _ _ _) P0 k0 a rfl (II.out.1.over BW.out) ZZ.out.1 ?_ (Nat.le_refl _) ?_)); go_step)
          (at_builtin; refine wpList_append_ints rfl _ _ rfl wr.heap.size _ [] rfl (World.ownsRow_nil _ _ _ _) P0 k0 a rfl (II.out.1.over BW.out) ZZ.out.1 (by have := EE.out.1; simp; omega) (Nat.le_refl _) ?_; intro v1 w1 ho1 hg1; have HO1 := Lib.hid ho1; have HG1 := Lib.hid (Below.grown (Below.refl wr.heap.size wr) hg1 (Nat.le_refl _) (fun k e => by cases e)); clear ho1 hg1)
          repeat ((fail_if_success at_builtin); go_step)
          (at_builtin; refine wpList_append_ints rfl _ _ rfl wr.heap.size _ _ rfl HO1.out P1 k1 b rfl (II.out.2.1.over (BWQ.out _ HG1.out)) ZZ.out.2.1 (by have := EE.out; simp; omega) HG1.out.size ?_; intro v2 w2 ho2 hg2; have HO2 := Lib.hid ho2; have HG2 := Lib.hid (Below.grown HG1.out hg2 HG1.out.size (fun k e => (HO1.out.lt k e).1)); clear ho2 hg2 HO1)
          repeat ((fail_if_success at_builtin); go_step)
          (at_builtin; refine wpList_append_ints rfl _ _ rfl wr.heap.size _ _ rfl HO2.out P2 k2 c rfl (II.out.2.2.over (BWQ.out _ HG2.out)) ZZ.out.2.2 (by have := EE.out; simp; omega) HG2.out.size ?_; intro v3 w3 ho3 hg3; have HG3 := Lib.hid (Below.grown HG2.out hg3 HG2.out.size (fun k e => (HO2.out.lt k e).1)); obtain ⟨G9, k9, rfl, I9⟩ := ints_of_owns ho3 (by have := EE.out; simp; omega) (by intro x hx; simp only [List.nil_append, List.mem_append] at hx; rcases hx with (hx | hx) | hx; exact II.out.1.2.1 x hx; exact II.out.2.1.2.1 x hx; exact II.out.2.2.2.1 x hx); have hL9 := I9.1; generalize hL : ([] ++ a ++ b ++ c : List Int) = L at *; have HL := Lib.hid hL; have HI9 := Lib.hid I9; clear hL; have e0 := YB.out.1 _ (BWR.out _ HG3.out); have e2 := YB.out.2.2 _ (BWR.out _ HG3.out); clear ho3 hg3 HO2 I9)
          go_wp2_with fail
          have KX := Lib.hid (show (L.all fun x => elemB .minus (a.contains x) (b.contains x) (c.contains x)) = R from by rw [← HL.out]; exact KR.out.trans ERH.out)
          obtain ⟨F, hF⟩ : ∃ F : Int → Bool, (fun x => elemB .minus (a.contains x) (b.contains x) (c.contains x)) = F := ⟨_, rfl⟩
          rw [hF] at KX
          have FE := Lib.hid (show ∀ x, F x = elemB .minus (a.contains x) (b.contains x) (c.contains x) from fun x => by rw [← hF])
          clear hF KR ERH HL
          go_loopw [10, 11, 12, 13] (fun i _ _ _ WQ => ∃ q : Nat, q ≤ L.length ∧ i = .int .i64 q ∧ L.all F = (L.drop q).all F ∧ Below w3.heap.size w3 WQ) (fun i _ _ _ _ => L.length - (intOf i).toNat)
          case atStart => exact ⟨0, Nat.zero_le _, rfl, by simp, Below.refl _ _⟩
          case round =>
            obtain ⟨q, hq, rfl, hall, hbw⟩ := hrel
            have HBX := Lib.hid hbw
            have BX9 := Lib.hid (HG3.out.trans (hbw.mono HG3.out.size))
            clear hbw e0
            have e0 := YB.out.1 _ (BWR.out _ BX9.out)
            by_cases hlt : q < L.length
            · obtain ⟨g9, o9, rfl, hg9, G9'⟩ := HI9.out.2.2 (by omega)
              have x9 := (HBX.out.cell (p := ⟨g9, o9 + q, none⟩) hg9).trans (G9' q hlt)
              rw [List.drop_eq_getElem_cons hlt, List.all_cons] at hall
              have HALL := Lib.hid hall
              have z1 : (q : Int) < (L.length : Int) := by omega
              have z2 : (0 : Int) ≤ (q : Int) := by omega
              clear hall G9'
              generalize L[q] = x at *
              have FX := Lib.hid (FE.out x)
              have QX2 := Lib.hid (QX.out x)
              have QY2 := Lib.hid (QY.out x)
              have QZ2 := Lib.hid (QZ.out x)
              clear QX QY QZ FE
              generalize a.contains x = X at *
              generalize b.contains x = Y at *
              generalize c.contains x = Z at *
              have D9 := Lib.hid (show Below w.heap.size w wr.drew from (BWQ.out _ BX9.out).trans ⟨rfl, rfl, rfl, Nat.le_refl _, fun _ _ => rfl⟩)
              have x9d : (fun (wx : World) => wx.cell? ⟨g9, o9 + q, none⟩ = some (.int .i64 x)) wr.drew := x9
              go_wp2_with fail
              refine wp_region_held_drew (S := fun (wx : World) => wx.cell? ⟨g9, o9 + q, none⟩ = some (.int .i64 x)) (by kernel_rfl) x9d (fun hHeld => ?_)
              refine wpAnyH_take (i := 0) (oi := { dst := some 106, op := Op.move (Operand.tmp 6), type := 23, pos := "ref.go:336", after := #[], guard := none }) (v := ?vn37k0) rfl (by kernel_rfl) (by kernel_rfl) (by kernel_rfl) (fun _ _ _ h => h) (Or.inl ⟨by kernel_rfl, ?yn37k0⟩) (by assumption) ?rn37k0
              case yn37k0 => intro w hSw; (try dsimp only at hSw); go_simp; try with_reducible rfl
              try simp only [Act.put, List.setIfInBounds_toArray, List.set_cons_zero, List.set_cons_succ]
              refine wpAnyH_take (i := 1) (oi := { dst := some 107, op := Op.move (Operand.tmp 9), type := 23, pos := "ref.go:336", after := #[], guard := none }) (v := ?vn38k1) rfl (by kernel_rfl) (by kernel_rfl) (by kernel_rfl) (fun _ _ _ h => h) (Or.inl ⟨by kernel_rfl, ?yn38k1⟩) (by assumption) ?rn38k1
              case yn38k1 => intro w hSw; (try dsimp only at hSw); go_simp; try with_reducible rfl
              try simp only [Act.put, List.setIfInBounds_toArray, List.set_cons_zero, List.set_cons_succ]
              refine wpAnyH_take (i := 2) (oi := { dst := some 108, op := Op.move (Operand.tmp 10), type := 3, pos := "ref.go:336", after := #[], guard := none }) (v := ?vn39k2) rfl (by kernel_rfl) (by kernel_rfl) (by kernel_rfl) (fun _ _ _ h => h) (Or.inl ⟨by kernel_rfl, ?yn39k2⟩) (by assumption) ?rn39k2
              case yn39k2 => intro w hSw; (try dsimp only at hSw); go_simp; try with_reducible rfl
              try simp only [Act.put, List.setIfInBounds_toArray, List.set_cons_zero, List.set_cons_succ]
              refine wpAnyH_take (i := 3) (oi := { dst := some 109, op := Op.indexAddr 23 (Operand.tmp 107) (Operand.tmp 108), type := 0, pos := "ref.go:336", after := #[{ on := 1, ground := Ground.data }, { on := 2, ground := Ground.data }], guard := none }) (v := ?vn40k3) rfl (by kernel_rfl) (by kernel_rfl) (by kernel_rfl) (fun _ _ _ h => h) (Or.inl ⟨by kernel_rfl, ?yn40k3⟩) (by assumption) ?rn40k3
              case yn40k3 => intro w hSw; (try dsimp only at hSw); go_simp; try with_reducible rfl
              try simp only [Act.put, List.setIfInBounds_toArray, List.set_cons_zero, List.set_cons_succ]
              refine wpAnyH_take (i := 4) (oi := { dst := some 110, op := Op.load 3 (Operand.tmp 109), type := 3, pos := "ref.go:336", after := #[{ on := 3, ground := Ground.data }], guard := none }) (v := ?vn41k4) rfl (by kernel_rfl) (by kernel_rfl) (by kernel_rfl) (fun _ _ _ h => h) (Or.inl ⟨by kernel_rfl, ?yn41k4⟩) (by assumption) ?rn41k4
              case yn41k4 => intro w hSw; (try dsimp only at hSw); go_simp; try with_reducible rfl
              try simp only [Act.put, List.setIfInBounds_toArray, List.set_cons_zero, List.set_cons_succ]
              refine wpAnyH_take (i := 6) (oi := { dst := some 112, op := Op.move (Operand.tmp 7), type := 23, pos := "ref.go:336", after := #[], guard := none }) (v := ?vn42k6) rfl (by kernel_rfl) (by kernel_rfl) (by kernel_rfl) (fun _ _ _ h => h) (Or.inl ⟨by kernel_rfl, ?yn42k6⟩) (by assumption) ?rn42k6
              case yn42k6 => intro w hSw; (try dsimp only at hSw); go_simp; try with_reducible rfl
              try simp only [Act.put, List.setIfInBounds_toArray, List.set_cons_zero, List.set_cons_succ]
              refine wpAnyH_take (i := 7) (oi := { dst := some 113, op := Op.move (Operand.tmp 9), type := 23, pos := "ref.go:336", after := #[], guard := none }) (v := ?vn43k7) rfl (by kernel_rfl) (by kernel_rfl) (by kernel_rfl) (fun _ _ _ h => h) (Or.inl ⟨by kernel_rfl, ?yn43k7⟩) (by assumption) ?rn43k7
              case yn43k7 => intro w hSw; (try dsimp only at hSw); go_simp; try with_reducible rfl
              try simp only [Act.put, List.setIfInBounds_toArray, List.set_cons_zero, List.set_cons_succ]
              refine wpAnyH_take (i := 8) (oi := { dst := some 114, op := Op.move (Operand.tmp 10), type := 3, pos := "ref.go:336", after := #[], guard := none }) (v := ?vn44k8) rfl (by kernel_rfl) (by kernel_rfl) (by kernel_rfl) (fun _ _ _ h => h) (Or.inl ⟨by kernel_rfl, ?yn44k8⟩) (by assumption) ?rn44k8
              case yn44k8 => intro w hSw; (try dsimp only at hSw); go_simp; try with_reducible rfl
              try simp only [Act.put, List.setIfInBounds_toArray, List.set_cons_zero, List.set_cons_succ]
              refine wpAnyH_take (i := 9) (oi := { dst := some 115, op := Op.indexAddr 23 (Operand.tmp 113) (Operand.tmp 114), type := 0, pos := "ref.go:336", after := #[{ on := 7, ground := Ground.data }, { on := 8, ground := Ground.data }], guard := none }) (v := ?vn45k9) rfl (by kernel_rfl) (by kernel_rfl) (by kernel_rfl) (fun _ _ _ h => h) (Or.inl ⟨by kernel_rfl, ?yn45k9⟩) (by assumption) ?rn45k9
              case yn45k9 => intro w hSw; (try dsimp only at hSw); go_simp; try with_reducible rfl
              try simp only [Act.put, List.setIfInBounds_toArray, List.set_cons_zero, List.set_cons_succ]
              refine wpAnyH_take (i := 10) (oi := { dst := some 116, op := Op.load 3 (Operand.tmp 115), type := 3, pos := "ref.go:336", after := #[{ on := 9, ground := Ground.data }], guard := none }) (v := ?vn46k10) rfl (by kernel_rfl) (by kernel_rfl) (by kernel_rfl) (fun _ _ _ h => h) (Or.inl ⟨by kernel_rfl, ?yn46k10⟩) (by assumption) ?rn46k10
              case yn46k10 => intro w hSw; (try dsimp only at hSw); go_simp; try with_reducible rfl
              try simp only [Act.put, List.setIfInBounds_toArray, List.set_cons_zero, List.set_cons_succ]
              refine wpAnyH_take (i := 12) (oi := { dst := some 118, op := Op.move (Operand.tmp 8), type := 23, pos := "ref.go:336", after := #[], guard := none }) (v := ?vn47k12) rfl (by kernel_rfl) (by kernel_rfl) (by kernel_rfl) (fun _ _ _ h => h) (Or.inl ⟨by kernel_rfl, ?yn47k12⟩) (by assumption) ?rn47k12
              case yn47k12 => intro w hSw; (try dsimp only at hSw); go_simp; try with_reducible rfl
              try simp only [Act.put, List.setIfInBounds_toArray, List.set_cons_zero, List.set_cons_succ]
              refine wpAnyH_take (i := 13) (oi := { dst := some 119, op := Op.move (Operand.tmp 9), type := 23, pos := "ref.go:336", after := #[], guard := none }) (v := ?vn48k13) rfl (by kernel_rfl) (by kernel_rfl) (by kernel_rfl) (fun _ _ _ h => h) (Or.inl ⟨by kernel_rfl, ?yn48k13⟩) (by assumption) ?rn48k13
              case yn48k13 => intro w hSw; (try dsimp only at hSw); go_simp; try with_reducible rfl
              try simp only [Act.put, List.setIfInBounds_toArray, List.set_cons_zero, List.set_cons_succ]
              refine wpAnyH_take (i := 14) (oi := { dst := some 120, op := Op.move (Operand.tmp 10), type := 3, pos := "ref.go:336", after := #[], guard := none }) (v := ?vn49k14) rfl (by kernel_rfl) (by kernel_rfl) (by kernel_rfl) (fun _ _ _ h => h) (Or.inl ⟨by kernel_rfl, ?yn49k14⟩) (by assumption) ?rn49k14
              case yn49k14 => intro w hSw; (try dsimp only at hSw); go_simp; try with_reducible rfl
              try simp only [Act.put, List.setIfInBounds_toArray, List.set_cons_zero, List.set_cons_succ]
              refine wpAnyH_take (i := 15) (oi := { dst := some 121, op := Op.indexAddr 23 (Operand.tmp 119) (Operand.tmp 120), type := 0, pos := "ref.go:336", after := #[{ on := 13, ground := Ground.data }, { on := 14, ground := Ground.data }], guard := none }) (v := ?vn50k15) rfl (by kernel_rfl) (by kernel_rfl) (by kernel_rfl) (fun _ _ _ h => h) (Or.inl ⟨by kernel_rfl, ?yn50k15⟩) (by assumption) ?rn50k15
              case yn50k15 => intro w hSw; (try dsimp only at hSw); go_simp; try with_reducible rfl
              try simp only [Act.put, List.setIfInBounds_toArray, List.set_cons_zero, List.set_cons_succ]
              refine wpAnyH_take (i := 16) (oi := { dst := some 122, op := Op.load 3 (Operand.tmp 121), type := 3, pos := "ref.go:336", after := #[{ on := 15, ground := Ground.data }], guard := none }) (v := ?vn51k16) rfl (by kernel_rfl) (by kernel_rfl) (by kernel_rfl) (fun _ _ _ h => h) (Or.inl ⟨by kernel_rfl, ?yn51k16⟩) (by assumption) ?rn51k16
              case yn51k16 => intro w hSw; (try dsimp only at hSw); go_simp; try with_reducible rfl
              try simp only [Act.put, List.setIfInBounds_toArray, List.set_cons_zero, List.set_cons_succ]
              refine wpAnyH_ready (rs := [5]) (by kernel_rfl) (by simp) (AllReadyH.cons (o := { dst := some 111, op := Op.call { callee := Callee.value (Operand.func 90), args := #[Operand.tmp 106, Operand.tmp 110], argTypes := #[23, 3] }, type := 4, pos := "ref.go:336", after := #[{ on := 0, ground := Ground.data }, { on := 4, ground := Ground.data }], guard := none }) rfl (fun K hK => ?_) AllReadyH.nil)
              go_simp
              refine (QX2.out _ D9.out).mono ?_
              rintro e w9 ⟨rfl, rfl⟩
              clear hHeld
              refine hK.out _ _ (by assumption) (fun hHeld => ?_)
              clear hK K
              try simp only [Act.put, List.setIfInBounds_toArray, List.set_cons_zero, List.set_cons_succ]
              refine wpAnyH_ready (rs := [11]) (by kernel_rfl) (by simp) (AllReadyH.cons (o := { dst := some 117, op := Op.call { callee := Callee.value (Operand.func 90), args := #[Operand.tmp 112, Operand.tmp 116], argTypes := #[23, 3] }, type := 4, pos := "ref.go:336", after := #[{ on := 6, ground := Ground.data }, { on := 10, ground := Ground.data }, { on := 5, ground := Ground.chain }], guard := none }) rfl (fun K hK => ?_) AllReadyH.nil)
              go_simp
              refine (QY2.out _ D9.out).mono ?_
              rintro e w9 ⟨rfl, rfl⟩
              clear hHeld
              refine hK.out _ _ (by assumption) (fun hHeld => ?_)
              clear hK K
              try simp only [Act.put, List.setIfInBounds_toArray, List.set_cons_zero, List.set_cons_succ]
              refine wpAnyH_ready (rs := [17]) (by kernel_rfl) (by simp) (AllReadyH.cons (o := { dst := some 123, op := Op.call { callee := Callee.value (Operand.func 90), args := #[Operand.tmp 118, Operand.tmp 122], argTypes := #[23, 3] }, type := 4, pos := "ref.go:336", after := #[{ on := 12, ground := Ground.data }, { on := 16, ground := Ground.data }, { on := 11, ground := Ground.chain }], guard := none }) rfl (fun K hK => ?_) AllReadyH.nil)
              go_simp
              refine (QZ2.out _ D9.out).mono ?_
              rintro e w9 ⟨rfl, rfl⟩
              clear hHeld
              refine hK.out _ _ (by assumption) (fun hHeld => ?_)
              clear hK K
              try simp only [Act.put, List.setIfInBounds_toArray, List.set_cons_zero, List.set_cons_succ]
              refine wpAnyH_take (i := 18) (oi := { dst := some 11, op := Op.assign (Operand.tmp 111), type := 4, pos := "ref.go:336", after := #[{ on := 5, ground := Ground.data }, { on := 17, ground := Ground.chain }, { on := 0, ground := Ground.phase }, { on := 1, ground := Ground.phase }, { on := 2, ground := Ground.phase }, { on := 3, ground := Ground.phase }, { on := 4, ground := Ground.phase }, { on := 5, ground := Ground.phase }, { on := 6, ground := Ground.textOnly Departure.lateStores }, { on := 7, ground := Ground.textOnly Departure.lateStores }, { on := 8, ground := Ground.textOnly Departure.lateStores }, { on := 9, ground := Ground.textOnly Departure.lateStores }, { on := 10, ground := Ground.textOnly Departure.lateStores }, { on := 11, ground := Ground.textOnly Departure.lateStoresUnsure }, { on := 12, ground := Ground.textOnly Departure.lateStores }, { on := 13, ground := Ground.textOnly Departure.lateStores }, { on := 14, ground := Ground.textOnly Departure.lateStores }, { on := 15, ground := Ground.textOnly Departure.lateStores }, { on := 16, ground := Ground.textOnly Departure.lateStores }, { on := 17, ground := Ground.textOnly Departure.lateStoresUnsure }], guard := none }) (v := ?vn52k18) rfl (by kernel_rfl) (by kernel_rfl) (by kernel_rfl) (fun _ _ _ h => h) (Or.inl ⟨by kernel_rfl, ?yn52k18⟩) (by assumption) ?rn52k18
              case yn52k18 => intro w hSw; (try dsimp only at hSw); go_simp; try with_reducible rfl
              try simp only [Act.put, List.setIfInBounds_toArray, List.set_cons_zero, List.set_cons_succ]
              refine wpAnyH_take (i := 19) (oi := { dst := some 12, op := Op.assign (Operand.tmp 117), type := 4, pos := "ref.go:336", after := #[{ on := 11, ground := Ground.data }, { on := 18, ground := Ground.chain }, { on := 0, ground := Ground.phase }, { on := 1, ground := Ground.phase }, { on := 2, ground := Ground.phase }, { on := 3, ground := Ground.phase }, { on := 4, ground := Ground.phase }, { on := 5, ground := Ground.phase }, { on := 6, ground := Ground.phase }, { on := 7, ground := Ground.phase }, { on := 8, ground := Ground.phase }, { on := 9, ground := Ground.phase }, { on := 10, ground := Ground.phase }, { on := 11, ground := Ground.phase }, { on := 12, ground := Ground.textOnly Departure.lateStores }, { on := 13, ground := Ground.textOnly Departure.lateStores }, { on := 14, ground := Ground.textOnly Departure.lateStores }, { on := 15, ground := Ground.textOnly Departure.lateStores }, { on := 16, ground := Ground.textOnly Departure.lateStores }, { on := 17, ground := Ground.textOnly Departure.lateStoresUnsure }, { on := 18, ground := Ground.phase }], guard := none }) (v := ?vn53k19) rfl (by kernel_rfl) (by kernel_rfl) (by kernel_rfl) (fun _ _ _ h => h) (Or.inl ⟨by kernel_rfl, ?yn53k19⟩) (by assumption) ?rn53k19
              case yn53k19 => intro w hSw; (try dsimp only at hSw); go_simp; try with_reducible rfl
              try simp only [Act.put, List.setIfInBounds_toArray, List.set_cons_zero, List.set_cons_succ]
              refine wpAnyH_take (i := 20) (oi := { dst := some 13, op := Op.assign (Operand.tmp 123), type := 4, pos := "ref.go:336", after := #[{ on := 17, ground := Ground.data }, { on := 19, ground := Ground.chain }, { on := 0, ground := Ground.phase }, { on := 1, ground := Ground.phase }, { on := 2, ground := Ground.phase }, { on := 3, ground := Ground.phase }, { on := 4, ground := Ground.phase }, { on := 5, ground := Ground.phase }, { on := 6, ground := Ground.phase }, { on := 7, ground := Ground.phase }, { on := 8, ground := Ground.phase }, { on := 9, ground := Ground.phase }, { on := 10, ground := Ground.phase }, { on := 11, ground := Ground.phase }, { on := 12, ground := Ground.phase }, { on := 13, ground := Ground.phase }, { on := 14, ground := Ground.phase }, { on := 15, ground := Ground.phase }, { on := 16, ground := Ground.phase }, { on := 17, ground := Ground.phase }, { on := 18, ground := Ground.phase }, { on := 19, ground := Ground.phase }], guard := none }) (v := ?vn54k20) rfl (by kernel_rfl) (by kernel_rfl) (by kernel_rfl) (fun _ _ _ h => h) (Or.inl ⟨by kernel_rfl, ?yn54k20⟩) (by assumption) ?rn54k20
              case yn54k20 => intro w hSw; (try dsimp only at hSw); go_simp; try with_reducible rfl
              try simp only [Act.put, List.setIfInBounds_toArray, List.set_cons_zero, List.set_cons_succ]
              refine wpAnyH_done (by kernel_rfl) ?_ _
              cases X <;> cases Y <;> cases Z
              all_goals go_wp2_with fail
              all_goals first
                | (have FV := Lib.hid (show F x = true from FX.out)
                   go_roundw
                   case rel => exact ⟨q + 1, by omega, by go_num, by rw [HALL.out, FV.out]; rfl, HBX.out.trans ((drewN_below wr _).mono HBX.out.size)⟩
                   case measure => simp [intOf]; omega)
                | (have FV := Lib.hid (show F x = false from FX.out)
                   go_ret
                   exact ⟨by rw [← KX.out, HALL.out, FV.out]; rfl, BWQ.out _ (BX9.out.trans ((drewN_below wr _).mono BX9.out.size))⟩)
            · obtain rfl : q = L.length := by omega
              rw [List.drop_length] at hall
              have HALL := Lib.hid hall
              clear hall
              go_wp2_with fail
              go_ret
              exact ⟨by rw [← KX.out, HALL.out]; rfl, BWQ.out _ BX9.out⟩
        | has =>
          obtain ⟨q1, q2, _⟩ := hmm
          injection q1 with q1
          have hlen : vs.length = 1 := by omega
          simp only [Kd.is] at h0 h1 h2 h3 h4 h5 h6 h7
          have y1 := YB.out.2.1 _ HBW.out
          rw [hlen] at y1
          obtain ⟨t0, P0, k0, X0, T0, L0, I0, A0, Z0, E0⟩ := SV.out 0 (by omega)
          simp only [Nat.add_zero] at X0
          have x0 := (BW.out.cell (p := ⟨b1, o1, none⟩) hb1').trans X0
          have l0 := (BW.out.cell (p := ⟨b2, o2 + t0, none⟩) hb2').trans L0
          have u0 : (t0 : Int) < (ls.length : Int) := by omega
          have v0 : (0 : Int) ≤ (t0 : Int) := by omega
          obtain ⟨a, ha⟩ : ∃ l, nthL ls (vs.getD 0 0) = l := ⟨_, rfl⟩
          rw [ha] at l0 I0 A0 E0
          obtain ⟨b, hb⟩ : ∃ l, nthL ls (vs.getD 1 0) = l := ⟨_, rfl⟩
          obtain ⟨c, hc⟩ : ∃ l, nthL ls (vs.getD 2 0) = l := ⟨_, rfl⟩
          have ER := HR2.out
          rw [ha, hb, hc] at ER
          have II := Lib.hid (And.intro I0 (And.intro I0 I0))
          have ZZ := Lib.hid (And.intro Z0 (And.intro Z0 Z0))
          have AA := Lib.hid (And.intro A0 A0)
          have EE := Lib.hid (And.intro E0 (And.intro E0 E0))
          have ERH := Lib.hid ER
          clear ER ha hb hc q1 q2 hlen HR2 SV X0 T0 L0 I0 A0 Z0 E0
          have QP := Lib.hid (fun w1 (q : Below w.heap.size w w1) => has_any a N P0 k0 w1 (II.out.1.over q))
          have KR := Lib.hid (show kindR .has a b c N = kindB .has a b c N from by simp [kindR, kindB])
          obtain ⟨X, hX⟩ : ∃ X, (a.contains N) = X := ⟨_, rfl⟩
          rw [hX] at QP
          have KX := Lib.hid (show (X) = R from by rw [← hX]; exact KR.out.trans ERH.out)
          clear hX KR ERH
          repeat ((fail_if_success (at_builtin; refine wpList_append_ints rfl _ _ rfl wr.heap.size _ [] rfl (World.ownsRow_nil _ _ _ _) P0 k0 a rfl (II.out.1.over BW.out) ZZ.out.1 ?_ (Nat.le_refl _) ?_)); go_step)
          (at_builtin; refine wpList_append_ints rfl _ _ rfl wr.heap.size _ [] rfl (World.ownsRow_nil _ _ _ _) P0 k0 a rfl (II.out.1.over BW.out) ZZ.out.1 (by have := EE.out.1; simp; omega) (Nat.le_refl _) ?_; intro v1 w1 ho1 hg1; have HO1 := Lib.hid ho1; have HG1 := Lib.hid (Below.grown (Below.refl wr.heap.size wr) hg1 (Nat.le_refl _) (fun k e => by cases e)); clear ho1 hg1)
          repeat ((fail_if_success at_builtin); go_step)
          (at_builtin; refine wpList_append_ints rfl _ _ rfl wr.heap.size _ _ rfl HO1.out P0 k0 a rfl (II.out.2.1.over (BWQ.out _ HG1.out)) ZZ.out.2.1 (by have := EE.out; simp; omega) HG1.out.size ?_; intro v2 w2 ho2 hg2; have HO2 := Lib.hid ho2; have HG2 := Lib.hid (Below.grown HG1.out hg2 HG1.out.size (fun k e => (HO1.out.lt k e).1)); clear ho2 hg2 HO1)
          repeat ((fail_if_success at_builtin); go_step)
          (at_builtin; refine wpList_append_ints rfl _ _ rfl wr.heap.size _ _ rfl HO2.out P0 k0 a rfl (II.out.2.2.over (BWQ.out _ HG2.out)) ZZ.out.2.2 (by have := EE.out; simp; omega) HG2.out.size ?_; intro v3 w3 ho3 hg3; have HG3 := Lib.hid (Below.grown HG2.out hg3 HG2.out.size (fun k e => (HO2.out.lt k e).1)); obtain ⟨G9, k9, rfl, I9⟩ := ints_of_owns ho3 (by have := EE.out; simp; omega) (by intro x hx; simp only [List.nil_append, List.mem_append] at hx; rcases hx with (hx | hx) | hx; exact II.out.1.2.1 x hx; exact II.out.2.1.2.1 x hx; exact II.out.2.2.2.1 x hx); have hL9 := I9.1; generalize hL : ([] ++ a ++ a ++ a : List Int) = L at *; have HL := Lib.hid hL; have HI9 := Lib.hid I9; clear hL; have e0 := YB.out.1 _ (BWR.out _ HG3.out); have e2 := YB.out.2.2 _ (BWR.out _ HG3.out); clear ho3 hg3 HO2 I9)
          go_wp2_with ((go_at_call 90; refine (QP.out _ (BWQ.out _ HG3.out)).mono ?_; rintro e x1 ⟨rfl, hb⟩; have HX1 := Lib.hid (show Below wr.heap.size wr x1 from HG3.out.trans (hb.mono HG3.out.size)); clear hb QP))
          go_ret
          exact ⟨by rw [← KX.out]; rfl, BWQ.out _ HX1.out⟩
        | lacks =>
          obtain ⟨q1, q2, _⟩ := hmm
          injection q1 with q1
          have hlen : vs.length = 1 := by omega
          simp only [Kd.is] at h0 h1 h2 h3 h4 h5 h6 h7
          have y1 := YB.out.2.1 _ HBW.out
          rw [hlen] at y1
          obtain ⟨t0, P0, k0, X0, T0, L0, I0, A0, Z0, E0⟩ := SV.out 0 (by omega)
          simp only [Nat.add_zero] at X0
          have x0 := (BW.out.cell (p := ⟨b1, o1, none⟩) hb1').trans X0
          have l0 := (BW.out.cell (p := ⟨b2, o2 + t0, none⟩) hb2').trans L0
          have u0 : (t0 : Int) < (ls.length : Int) := by omega
          have v0 : (0 : Int) ≤ (t0 : Int) := by omega
          obtain ⟨a, ha⟩ : ∃ l, nthL ls (vs.getD 0 0) = l := ⟨_, rfl⟩
          rw [ha] at l0 I0 A0 E0
          obtain ⟨b, hb⟩ : ∃ l, nthL ls (vs.getD 1 0) = l := ⟨_, rfl⟩
          obtain ⟨c, hc⟩ : ∃ l, nthL ls (vs.getD 2 0) = l := ⟨_, rfl⟩
          have ER := HR2.out
          rw [ha, hb, hc] at ER
          have II := Lib.hid (And.intro I0 (And.intro I0 I0))
          have ZZ := Lib.hid (And.intro Z0 (And.intro Z0 Z0))
          have AA := Lib.hid (And.intro A0 A0)
          have EE := Lib.hid (And.intro E0 (And.intro E0 E0))
          have ERH := Lib.hid ER
          clear ER ha hb hc q1 q2 hlen HR2 SV X0 T0 L0 I0 A0 Z0 E0
          have QP := Lib.hid (fun w1 (q : Below w.heap.size w w1) => has_any a N P0 k0 w1 (II.out.1.over q))
          have KR := Lib.hid (show kindR .lacks a b c N = kindB .lacks a b c N from by simp [kindR, kindB])
          obtain ⟨X, hX⟩ : ∃ X, (a.contains N) = X := ⟨_, rfl⟩
          rw [hX] at QP
          have KX := Lib.hid (show (!X) = R from by rw [← hX]; exact KR.out.trans ERH.out)
          clear hX KR ERH
          repeat ((fail_if_success (at_builtin; refine wpList_append_ints rfl _ _ rfl wr.heap.size _ [] rfl (World.ownsRow_nil _ _ _ _) P0 k0 a rfl (II.out.1.over BW.out) ZZ.out.1 ?_ (Nat.le_refl _) ?_)); go_step)
          (at_builtin; refine wpList_append_ints rfl _ _ rfl wr.heap.size _ [] rfl (World.ownsRow_nil _ _ _ _) P0 k0 a rfl (II.out.1.over BW.out) ZZ.out.1 (by have := EE.out.1; simp; omega) (Nat.le_refl _) ?_; intro v1 w1 ho1 hg1; have HO1 := Lib.hid ho1; have HG1 := Lib.hid (Below.grown (Below.refl wr.heap.size wr) hg1 (Nat.le_refl _) (fun k e => by cases e)); clear ho1 hg1)
          repeat ((fail_if_success at_builtin); go_step)
          (at_builtin; refine wpList_append_ints rfl _ _ rfl wr.heap.size _ _ rfl HO1.out P0 k0 a rfl (II.out.2.1.over (BWQ.out _ HG1.out)) ZZ.out.2.1 (by have := EE.out; simp; omega) HG1.out.size ?_; intro v2 w2 ho2 hg2; have HO2 := Lib.hid ho2; have HG2 := Lib.hid (Below.grown HG1.out hg2 HG1.out.size (fun k e => (HO1.out.lt k e).1)); clear ho2 hg2 HO1)
          repeat ((fail_if_success at_builtin); go_step)
          (at_builtin; refine wpList_append_ints rfl _ _ rfl wr.heap.size _ _ rfl HO2.out P0 k0 a rfl (II.out.2.2.over (BWQ.out _ HG2.out)) ZZ.out.2.2 (by have := EE.out; simp; omega) HG2.out.size ?_; intro v3 w3 ho3 hg3; have HG3 := Lib.hid (Below.grown HG2.out hg3 HG2.out.size (fun k e => (HO2.out.lt k e).1)); obtain ⟨G9, k9, rfl, I9⟩ := ints_of_owns ho3 (by have := EE.out; simp; omega) (by intro x hx; simp only [List.nil_append, List.mem_append] at hx; rcases hx with (hx | hx) | hx; exact II.out.1.2.1 x hx; exact II.out.2.1.2.1 x hx; exact II.out.2.2.2.1 x hx); have hL9 := I9.1; generalize hL : ([] ++ a ++ a ++ a : List Int) = L at *; have HL := Lib.hid hL; have HI9 := Lib.hid I9; clear hL; have e0 := YB.out.1 _ (BWR.out _ HG3.out); have e2 := YB.out.2.2 _ (BWR.out _ HG3.out); clear ho3 hg3 HO2 I9)
          go_wp2_with ((go_at_call 90; refine (QP.out _ (BWQ.out _ HG3.out)).mono ?_; rintro e x1 ⟨rfl, hb⟩; have HX1 := Lib.hid (show Below wr.heap.size wr x1 from HG3.out.trans (hb.mono HG3.out.size)); clear hb QP))
          go_ret
          exact ⟨by rw [← KX.out]; rfl, BWQ.out _ HX1.out⟩
        | size =>
          obtain ⟨q1, q2, _⟩ := hmm
          injection q1 with q1
          have hlen : vs.length = 1 := by omega
          simp only [Kd.is] at h0 h1 h2 h3 h4 h5 h6 h7
          have y1 := YB.out.2.1 _ HBW.out
          rw [hlen] at y1
          obtain ⟨t0, P0, k0, X0, T0, L0, I0, A0, Z0, E0⟩ := SV.out 0 (by omega)
          simp only [Nat.add_zero] at X0
          have x0 := (BW.out.cell (p := ⟨b1, o1, none⟩) hb1').trans X0
          have l0 := (BW.out.cell (p := ⟨b2, o2 + t0, none⟩) hb2').trans L0
          have u0 : (t0 : Int) < (ls.length : Int) := by omega
          have v0 : (0 : Int) ≤ (t0 : Int) := by omega
          obtain ⟨a, ha⟩ : ∃ l, nthL ls (vs.getD 0 0) = l := ⟨_, rfl⟩
          rw [ha] at l0 I0 A0 E0
          obtain ⟨b, hb⟩ : ∃ l, nthL ls (vs.getD 1 0) = l := ⟨_, rfl⟩
          obtain ⟨c, hc⟩ : ∃ l, nthL ls (vs.getD 2 0) = l := ⟨_, rfl⟩
          have ER := HR2.out
          rw [ha, hb, hc] at ER
          have II := Lib.hid (And.intro I0 (And.intro I0 I0))
          have ZZ := Lib.hid (And.intro Z0 (And.intro Z0 Z0))
          have AA := Lib.hid (And.intro A0 A0)
          have EE := Lib.hid (And.intro E0 (And.intro E0 E0))
          have ERH := Lib.hid ER
          clear ER ha hb hc q1 q2 hlen HR2 SV X0 T0 L0 I0 A0 Z0 E0
          have KR := Lib.hid (show kindR .size a b c N = kindB .size a b c N from by simp [kindR, kindB])
          obtain ⟨X, hX⟩ : ∃ X, decide ((a.length : Int) = N) = X := ⟨_, rfl⟩
          have HX := Lib.hid hX
          have KX := Lib.hid (show X = R from by rw [← hX]; exact KR.out.trans ERH.out)
          clear hX KR ERH
          have hal := II.out.1.1
          repeat ((fail_if_success (at_builtin; refine wpList_append_ints rfl _ _ rfl wr.heap.size _ [] rfl (World.ownsRow_nil _ _ _ _) P0 k0 a rfl (II.out.1.over BW.out) ZZ.out.1 ?_ (Nat.le_refl _) ?_)); go_step)
          (at_builtin; refine wpList_append_ints rfl _ _ rfl wr.heap.size _ [] rfl (World.ownsRow_nil _ _ _ _) P0 k0 a rfl (II.out.1.over BW.out) ZZ.out.1 (by have := EE.out.1; simp; omega) (Nat.le_refl _) ?_; intro v1 w1 ho1 hg1; have HO1 := Lib.hid ho1; have HG1 := Lib.hid (Below.grown (Below.refl wr.heap.size wr) hg1 (Nat.le_refl _) (fun k e => by cases e)); clear ho1 hg1)
          repeat ((fail_if_success at_builtin); go_step)
          (at_builtin; refine wpList_append_ints rfl _ _ rfl wr.heap.size _ _ rfl HO1.out P0 k0 a rfl (II.out.2.1.over (BWQ.out _ HG1.out)) ZZ.out.2.1 (by have := EE.out; simp; omega) HG1.out.size ?_; intro v2 w2 ho2 hg2; have HO2 := Lib.hid ho2; have HG2 := Lib.hid (Below.grown HG1.out hg2 HG1.out.size (fun k e => (HO1.out.lt k e).1)); clear ho2 hg2 HO1)
          repeat ((fail_if_success at_builtin); go_step)
          (at_builtin; refine wpList_append_ints rfl _ _ rfl wr.heap.size _ _ rfl HO2.out P0 k0 a rfl (II.out.2.2.over (BWQ.out _ HG2.out)) ZZ.out.2.2 (by have := EE.out; simp; omega) HG2.out.size ?_; intro v3 w3 ho3 hg3; have HG3 := Lib.hid (Below.grown HG2.out hg3 HG2.out.size (fun k e => (HO2.out.lt k e).1)); obtain ⟨G9, k9, rfl, I9⟩ := ints_of_owns ho3 (by have := EE.out; simp; omega) (by intro x hx; simp only [List.nil_append, List.mem_append] at hx; rcases hx with (hx | hx) | hx; exact II.out.1.2.1 x hx; exact II.out.2.1.2.1 x hx; exact II.out.2.2.2.1 x hx); have hL9 := I9.1; generalize hL : ([] ++ a ++ a ++ a : List Int) = L at *; have HL := Lib.hid hL; have HI9 := Lib.hid I9; clear hL; have e0 := YB.out.1 _ (BWR.out _ HG3.out); have e2 := YB.out.2.2 _ (BWR.out _ HG3.out); clear ho3 hg3 HO2 I9)
          go_wp2_with fail
          go_ret
          exact ⟨by rw [← KX.out, ← HX.out]; rfl, BWQ.out _ HG3.out⟩
        | none =>
          obtain ⟨q1, _⟩ := hmm
          cases q1
end Go.Proofs.YtlhfbhkfmkcnjaaDoor
