/-
  Whether a relation holds: the program's word.
-/
import Derived.Test.YthakhdbakmlooaaDoorKaA
import Derived.Test.YthakhdbakmlooaaDoorKaD
namespace Go.Proofs.YthakhdbakmlooaaDoor
open Go Go.RowKit Go.Ev

def nthL (ls : List (List Int)) (v : Int) : List Int := ls.getD v.toNat []
/-- whether a relation of a kind holds for three sets -/
def kindB (d : Kd) (a b c : List Int) (N : Int) : Bool := match d with
  | .part => a.all fun x => b.contains x
  | .apart => a.all fun x => !b.contains x
  | .union => (a.all fun x => c.contains x) && (b.all fun x => c.contains x) && ((c.filter fun x => !a.contains x).all fun x => b.contains x)
  | .meet => decide ((a.filter fun x => b.contains x) = c)
  | .minus => decide ((a.filter fun x => !b.contains x) = c)
  | .has => a.contains N
  | .lacks => !a.contains N
  | .size => decide ((a.length : Int) = N)
  | .none => false
def holdPB (d : Kd) (vs : List Int) (N : Int) (ls : List (List Int)) : Bool :=
  relB d vs ls.length && !(ls.any fun l => !ascB l) && kindB d (nthL ls (vs.getD 0 0)) (nthL ls (vs.getD 1 0)) (nthL ls (vs.getD 2 0)) N
theorem relB_parts {d : Kd} {vs : List Int} {n : Int} (h : relB d vs n = true) : ∃ m, varsN d = some m ∧ vs.length = m ∧ (∀ x ∈ vs, 0 ≤ x ∧ x < n) ∧ n ≤ 40 := by
  unfold relB at h
  cases hv : varsN d with
  | none => rw [hv] at h; cases h
  | some m =>
    rw [hv] at h
    simp only [Bool.and_eq_true, decide_eq_true_eq, Bool.not_eq_true', List.any_eq_false] at h
    refine ⟨m, rfl, h.1.1, fun x hx => ?_, h.2⟩
    have := h.1.2 x hx
    simp only [outB, Bool.or_eq_true, decide_eq_true_eq, not_or] at this
    omega
theorem drewN_below (W : World) (k : Nat) : Below W.heap.size W (W.drewN k) := ⟨rfl, rfl, rfl, Nat.le_refl _, fun _ _ => rfl⟩
/-- the three places' slices, after k rounds -/
def slAt (AF : Nat → Option Addr) (CF : Nat → Nat) (ls : List (List Int)) (t : Nat) : Value := .slice (AF t) (ls.getD t []).length (CF t)
def svAt (AF : Nat → Option Addr) (CF : Nat → Nat) (ls : List (List Int)) (vs : List Int) (k j : Nat) : Value := if j < k then slAt AF CF ls (vs.getD j 0).toNat else .slice none 0 0
def atArr (AF : Nat → Option Addr) (CF : Nat → Nat) (ls : List (List Int)) (vs : List Int) (k : Nat) : Array Value := #[svAt AF CF ls vs k 0, svAt AF CF ls vs k 1, svAt AF CF ls vs k 2]
theorem atArr_set (AF : Nat → Option Addr) (CF : Nat → Nat) (ls : List (List Int)) (vs : List Int) (k : Nat) (hk : k < 3) : (atArr AF CF ls vs k).setIfInBounds k (slAt AF CF ls (vs.getD k 0).toNat) = atArr AF CF ls vs (k + 1) := by
  match k, hk with
  | 0, _ => simp [atArr, svAt]
  | 1, _ => simp [atArr, svAt]
  | 2, _ => simp [atArr, svAt]
set_option maxRecDepth 100000 in
set_option maxHeartbeats 8000000 in
theorem Holds_p_any (k : ByteArray) (d : Kd) (h : KF k.toList d) (vs : List Int) (N : Int) (ls : List (List Int)) (A B : Option Addr) (c1 c2 : Nat) (w : World) (ha : Ints w A vs) (hb : LL w B ls) :
    Calls Tryd.prog 24 #[.agg #[.string k, .slice A vs.length c1, .int .i64 N], .slice B ls.length c2] w fun e w' => e = .returned (.bool (holdPB d vs N ls)) ∧ Below w.heap.size w w' := by
  have VR := Lib.hid (fun w1 (h1 : Below w.heap.size w w1) => ValidRel_p_any k d h vs N ls.length A c1 w1 (ha.over h1))
  have CA := Lib.hid (fun w1 (h1 : Below w.heap.size w w1) => anyAsc_any ls B c2 w1 (hb.over h1))
  have hlv := ha.1
  have hll := hb.1
  have HA := Lib.hid ha
  have HB := Lib.hid hb
  have HK := Lib.hid h
  clear ha hb h
  have B1 := Lib.hid (show Below w.heap.size w (w.alloc (.cells #[.string k, .slice A vs.length c1, .int .i64 N] 38)) from (Below.refl _ w).alloc (Nat.le_refl _) _)
  have BX := Lib.hid (show (∀ wx, Below (w.alloc (.cells #[.string k, .slice A vs.length c1, .int .i64 N] 38)).heap.size (w.alloc (.cells #[.string k, .slice A vs.length c1, .int .i64 N] 38)) wx → wx.cell? ⟨w.heap.size, 0, none⟩ = some (.string k)) ∧
      (∀ wx, Below (w.alloc (.cells #[.string k, .slice A vs.length c1, .int .i64 N] 38)).heap.size (w.alloc (.cells #[.string k, .slice A vs.length c1, .int .i64 N] 38)) wx → wx.cell? ⟨w.heap.size, 1, none⟩ = some (.slice A vs.length c1)) ∧
      (∀ wx, Below (w.alloc (.cells #[.string k, .slice A vs.length c1, .int .i64 N] 38)).heap.size (w.alloc (.cells #[.string k, .slice A vs.length c1, .int .i64 N] 38)) wx → wx.cell? ⟨w.heap.size, 2, none⟩ = some (.int .i64 N)) from by
    refine ⟨fun wx h => (h.cell (p := ⟨w.heap.size, 0, none⟩) (by simp)).trans (by simp [go_sem]), fun wx h => (h.cell (p := ⟨w.heap.size, 1, none⟩) (by simp)).trans (by simp [go_sem]), fun wx h => (h.cell (p := ⟨w.heap.size, 2, none⟩) (by simp)).trans (by simp [go_sem])⟩)
  unfold holdPB
  cases hrel : relB d vs ls.length with
  | false =>
    rw [hrel] at VR
    simp only [Bool.false_and]
    clear HA HB HK CA hrel
    generalize vs.length = lv at *
    generalize ls.length = ll at *
    go_enter Tryd.func24, Tryd.ntmps24
    go_wp2_with (go_at_call 29; refine (VR.out _ B1.out).mono ?_; rintro e w2 ⟨rfl, hb⟩; have H2 := Lib.hid (B1.out.trans (hb.mono (by simp))); clear hb)
    go_ret
    exact ⟨rfl, H2.out⟩
  | true =>
    rw [hrel] at VR
    cases hasc : (ls.any fun l => !ascB l) with
    | true =>
      rw [hasc] at CA
      simp only [Bool.not_true, Bool.and_false, Bool.false_and]
      clear HA HB HK hrel hasc
      generalize vs.length = lv at *
      generalize ls.length = ll at *
      go_enter Tryd.func24, Tryd.ntmps24
      go_wp2_with (first | (go_at_call 29; refine (VR.out _ B1.out).mono ?_; rintro e w2 ⟨rfl, hb⟩; have H2 := Lib.hid (B1.out.trans (hb.mono (by simp))); clear hb) | (go_at_call 51; refine (CA.out _ H2.out).mono ?_; rintro e w3 ⟨rfl, hb⟩; have H3 := Lib.hid (H2.out.trans (hb.mono H2.out.size)); clear hb))
      go_ret
      exact ⟨rfl, H3.out⟩
    | false =>
      rw [hasc] at CA
      simp only [Bool.not_false, Bool.true_and]
      obtain ⟨m, hm1, hm2, hin, hn40⟩ := relB_parts hrel
      have HASC := Lib.hid (show ∀ l ∈ ls, ascB l = true from fun l hl => by have := List.any_eq_false.1 hasc l hl; simpa using this)
      have HIN := Lib.hid hin
      have hm3 : m ≤ 3 := by cases d <;> simp [varsN] at hm1 <;> omega
      have HM1 := Lib.hid (And.intro hm1 (And.intro hm2 (And.intro hm3 hn40)))
      clear hrel hasc hin hm1 hm2 hm3 hn40
      go_enter Tryd.func24, Tryd.ntmps24
      go_wp2_with (first | (go_at_call 29; refine (VR.out _ B1.out).mono ?_; rintro e w2 ⟨rfl, hb⟩; have H2 := Lib.hid hb; clear hb VR) | (go_at_call 51; refine (CA.out _ (B1.out.trans (H2.out.mono (by simp)))).mono ?_; rintro e w3 ⟨rfl, hb⟩; have H3 := Lib.hid (H2.out.trans (hb.mono H2.out.size)); have y0 := fun o => BX.out.1 _ (H3.out.alloc H3.out.size o); have y1 := fun o => BX.out.2.1 _ (H3.out.alloc H3.out.size o); have y2 := fun o => BX.out.2.2 _ (H3.out.alloc H3.out.size o); clear hb CA))
      have hm1 : 0 < vs.length := by
        obtain ⟨e1, e2, _⟩ := HM1.out
        cases d <;> simp [varsN] at e1 <;> omega
      have hl0 : 0 < ls.length := by have := HIN.out _ (List.getElem_mem hm1); omega
      obtain ⟨b1, o1, rfl, hb1', g1⟩ := HA.out.2.2 hm1
      obtain ⟨b2, o2, rfl, hb2', AF, CF, _, g2⟩ := HB.out.2 hl0
      have G1 := Lib.hid g1
      have G2 := Lib.hid g2
      have HM3 := Lib.hid (show vs.length ≤ 3 by obtain ⟨_, e2, e3, _⟩ := HM1.out; omega)
      have H4 := Lib.hid (H3.out.alloc H3.out.size (.cells #[.slice none 0 0, .slice none 0 0, .slice none 0 0] 75))
      have A0 := Lib.hid (show (w3.alloc (.cells #[.slice none 0 0, .slice none 0 0, .slice none 0 0] 75)).heap[w3.heap.size]? = some (.cells (atArr AF CF ls vs 0) 75 (0, 0)) from heap_alloc_new _ _)
      have hs4 : (w3.alloc (.cells #[.slice none 0 0, .slice none 0 0, .slice none 0 0] 75)).heap.size = w3.heap.size + 1 := by simp
      have hs3 : w.heap.size < w3.heap.size := by have := H3.out.size; simp at this; omega
      clear g1 g2 H2 y0 y1 y2
      generalize (w3.alloc (.cells #[.slice none 0 0, .slice none 0 0, .slice none 0 0] 75)) = W4 at *
      go_loopw [6, 7, 23] (fun _ _ i wr => ∃ q : Nat, q ≤ vs.length ∧ i = .int .i64 q ∧ wr.heap[w3.heap.size]? = some (.cells (atArr AF CF ls vs q) 75 (0, 0)) ∧ Below w3.heap.size W4 wr) (fun _ _ i _ => vs.length - (intOf i).toNat)
      case atStart => exact ⟨0, Nat.zero_le _, rfl, A0.out, Below.refl _ _⟩
      case round =>
        obtain ⟨q, hq, rfl, hat, hbw⟩ := hrel
        have HAT := Lib.hid hat
        have HBW := Lib.hid hbw
        have BW := Lib.hid (show Below w.heap.size w wr from B1.out.trans ((H4.out.mono (by simp)).trans (hbw.mono (by omega))))
        clear hat hbw
        by_cases hlt : q < vs.length
        · have x1 := (BW.out.cell (p := ⟨b1, o1 + q, none⟩) hb1').trans (G1.out q hlt)
          have hi := HIN.out _ (List.getElem_mem hlt)
          have EG := Lib.hid (show vs.getD q 0 = vs[q] by simp [List.getD_eq_getElem?_getD, List.getElem?_eq_getElem hlt])
          have hq3 : q < 3 := by have := HM3.out; omega
          generalize hx : vs[q] = x at *
          clear hx
          obtain ⟨t, rfl⟩ : ∃ t : Nat, x = t := ⟨x.toNat, by omega⟩
          have htl : t < ls.length := by omega
          have x2 := (BW.out.cell (p := ⟨b2, o2 + t, none⟩) hb2').trans (G2.out t htl).1
          have SL := Lib.hid (show slAt AF CF ls t = .slice (AF t) ls[t].length (CF t) by simp [slAt, List.getD_eq_getElem?_getD, List.getElem?_eq_getElem htl])
          generalize ls[t].length = lx at *
          have z1 : (q : Int) < (vs.length : Int) := by omega
          have z2 : (0 : Int) ≤ (q : Int) := by omega
          have z3 : (q : Int) < 3 := by omega
          have z4 : (t : Int) < (ls.length : Int) := by omega
          have z5 : (0 : Int) ≤ (t : Int) := by omega
          have hsome : ∃ u, wr.cell? ⟨w3.heap.size, q, none⟩ = some u := by
            refine ⟨(atArr AF CF ls vs q)[q]'(by simp [atArr]; omega), ?_⟩
            simp only [World.cell?, HAT.out]
            exact Array.getElem?_eq_getElem _
          obtain ⟨u, hu⟩ := hsome
          have f0 : wr.frozen? ⟨w3.heap.size, q, none⟩ = false := by simp [World.frozen?, HAT.out]
          have yy := (HBW.out.cell (p := ⟨w.heap.size, 1, none⟩) hs3).trans (BX.out.2.1 _ H4.out)
          clear htl
          go_wp2_with fail
          go_roundw
          case rel =>
            refine ⟨q + 1, by omega, by go_num, ?_, HBW.out.setCell (p := ⟨w3.heap.size, q, none⟩) (Nat.le_refl _) _⟩
            have h5 := heap_setCell_same _ w3.heap.size q _ _ (.slice (AF t) lx (CF t)) HAT.out
            rw [← SL.out] at h5
            have h6 := atArr_set AF CF ls vs q hq3
            rw [EG.out, Int.toNat_natCast] at h6
            rw [h6, SL.out] at h5
            exact h5
          case measure => simp [intOf]; omega
        · obtain rfl : q = vs.length := by omega
          have SV := Lib.hid (show ∀ j (h : j < vs.length), ∃ P c, svAt AF CF ls vs vs.length j = .slice P (nthL ls (vs.getD j 0)).length c ∧ Ints wr P (nthL ls (vs.getD j 0)) ∧ ascB (nthL ls (vs.getD j 0)) = true from fun j hj => by
            have e : vs.getD j 0 = vs[j] := by simp [List.getD_eq_getElem?_getD, List.getElem?_eq_getElem hj]
            have hi := HIN.out _ (List.getElem_mem hj)
            rw [e]
            obtain ⟨t, ht⟩ : ∃ t : Nat, vs[j] = t := ⟨vs[j].toNat, by omega⟩
            rw [ht] at hi ⊢
            have htl : t < ls.length := by omega
            have en : nthL ls (t : Int) = ls[t] := by unfold nthL; rw [Int.toNat_natCast]; simp [List.getD_eq_getElem?_getD, List.getElem?_eq_getElem htl]
            rw [en]
            refine ⟨AF t, CF t, ?_, (G2.out t htl).2.over BW.out, HASC.out _ (List.getElem_mem htl)⟩
            unfold svAt
            rw [if_pos hj, e, ht, Int.toNat_natCast]
            simp [slAt, List.getD_eq_getElem?_getD, List.getElem?_eq_getElem htl])
          have SN := Lib.hid (show ∀ j, ¬ j < vs.length → svAt AF CF ls vs vs.length j = .slice none 0 0 from fun j hj => if_neg hj)
          have e0 : wr.cell? ⟨w3.heap.size, 0, none⟩ = some (svAt AF CF ls vs vs.length 0) := by simp only [World.cell?, HAT.out]; rfl
          have e1 : wr.cell? ⟨w3.heap.size, 1, none⟩ = some (svAt AF CF ls vs vs.length 1) := by simp only [World.cell?, HAT.out]; rfl
          have e2 : wr.cell? ⟨w3.heap.size, 2, none⟩ = some (svAt AF CF ls vs vs.length 2) := by simp only [World.cell?, HAT.out]; rfl
          have y0 := (HBW.out.cell (p := ⟨w.heap.size, 0, none⟩) hs3).trans (BX.out.1 _ H4.out)
          have y2 := (HBW.out.cell (p := ⟨w.heap.size, 2, none⟩) hs3).trans (BX.out.2.2 _ H4.out)
          obtain ⟨h0, h1, h2, h3, h4, h5, h6, h7⟩ := HK.out
          have BWQ := Lib.hid (show ∀ wx, Below wr.heap.size wr wx → Below w.heap.size w wx from fun wx q => BW.out.trans (q.mono BW.out.size))
          have hmm := HM1.out
          have hsr : w3.heap.size < wr.heap.size := (Array.getElem?_eq_some_iff.1 HAT.out).1
          have hsr2 : w.heap.size < wr.heap.size := by omega
          clear HAT HBW G1 G2 HIN HASC H4 A0 H3 HA HB B1 BX
          have S0 := SV.out 0 hm1
          have S1 := fun h => SV.out 1 h
          have S2 := fun h => SV.out 2 h
          have N1 := fun h => SN.out 1 h
          have N2 := fun h => SN.out 2 h
          clear SV SN
          obtain ⟨a, ha⟩ : ∃ a, nthL ls (vs.getD 0 0) = a := ⟨_, rfl⟩
          obtain ⟨b, hb⟩ : ∃ b, nthL ls (vs.getD 1 0) = b := ⟨_, rfl⟩
          obtain ⟨c, hc⟩ : ∃ c, nthL ls (vs.getD 2 0) = c := ⟨_, rfl⟩
          rw [ha] at S0
          simp only [hb] at S1
          simp only [hc] at S2
          have EA := Lib.hid (And.intro ha (And.intro hb hc))
          clear ha hb hc
          obtain ⟨P0, k0, s0, I0, A0⟩ := S0
          rw [s0] at e0
          cases d with
          | part =>
            obtain ⟨q1, q2, _⟩ := hmm
            injection q1 with q1
            have hlen : vs.length = 2 := by omega
            simp only [Kd.is] at h0 h1 h2 h3 h4 h5 h6 h7
            obtain ⟨P1, k1, s1, I1, A1⟩ := S1 (by omega)
            rw [s1] at e1
            rw [N2 (by omega)] at e2
            clear S1 S2 N1 N2 q1 q2 hlen s0 s1 HM1 HK HM3
            have QP := Lib.hid (fun w1 (q : Below wr.heap.size wr w1) => isPart_any a b P0 P1 k0 k1 w1 (I0.over q) (I1.over q) A1)
            have ER := Lib.hid (show kindB .part a b c N = (a.all fun x => b.contains x) from rfl)
            clear I0 I1 A0 A1
            generalize (a.all fun x => b.contains x) = X at *
            go_wp2_with fail
            go_quiet (fail)
            go_wp2_with ((go_at_call 54; refine (QP.out _ (drewN_below wr _)).mono ?_; rintro e x1 ⟨rfl, hb⟩; have HX1 := Lib.hid (show Below wr.heap.size wr x1 from ⟨hb.os, hb.tape, hb.output, hb.size, hb.block⟩); clear hb QP))
            go_ret
            rw [EA.out.1, EA.out.2.1, EA.out.2.2]
            exact ⟨by rw [ER.out]; rfl, BWQ.out _ HX1.out⟩
          | apart =>
            obtain ⟨q1, q2, _⟩ := hmm
            injection q1 with q1
            have hlen : vs.length = 2 := by omega
            simp only [Kd.is] at h0 h1 h2 h3 h4 h5 h6 h7
            obtain ⟨P1, k1, s1, I1, A1⟩ := S1 (by omega)
            rw [s1] at e1
            rw [N2 (by omega)] at e2
            clear S1 S2 N1 N2 q1 q2 hlen s0 s1 HM1 HK HM3
            have QC := Lib.hid (fun w1 (q : Below wr.heap.size wr w1) => common_any a b P0 P1 k0 k1 w1 (I0.over q) (I1.over q) A1)
            have FL := Lib.hid (show (((a.filter fun x => !strCom b x).length : Int) == 0) = kindB .apart a b c N from by rw [filter_len]; simp [kindB, strCom])
            have KL := Lib.hid (Nat.le_trans (List.length_filter_le (fun x => !strCom b x) a) I0.1)
            clear I0 I1 A0 A1
            have hkl := KL.out
            generalize (a.filter fun x => !strCom b x) = ks at *
            go_wp2_with fail
            go_quiet (fail)
            go_wp2_with ((go_at_call 55; refine (QC.out _ (drewN_below wr _)).mono ?_; rintro e x1 ⟨A9, k9, rfl, hr, hb⟩; have HX1 := Lib.hid (show Below wr.heap.size wr x1 from ⟨hb.os, hb.tape, hb.output, hb.size, hb.block⟩); skip; clear hb hr QC))
            go_ret
            rw [EA.out.1, EA.out.2.1, EA.out.2.2]
            exact ⟨by rw [← FL.out]; rfl, BWQ.out _ HX1.out⟩
          | union =>
            obtain ⟨q1, q2, _⟩ := hmm
            injection q1 with q1
            have hlen : vs.length = 3 := by omega
            simp only [Kd.is] at h0 h1 h2 h3 h4 h5 h6 h7
            obtain ⟨P1, k1, s1, I1, A1⟩ := S1 (by omega)
            rw [s1] at e1
            obtain ⟨P2, k2, s2, I2, A2⟩ := S2 (by omega)
            rw [s2] at e2
            clear S1 S2 N1 N2 q1 q2 hlen s0 s1 s2 HM1 HK HM3
            have QP := Lib.hid (fun w1 (q : Below wr.heap.size wr w1) => isPart_any a c P0 P2 k0 k2 w1 (I0.over q) (I2.over q) A2)
            have QQ := Lib.hid (fun w1 (q : Below wr.heap.size wr w1) => isPart_any b c P1 P2 k1 k2 w1 (I1.over q) (I2.over q) A2)
            have QW := Lib.hid (fun w1 (q : Below wr.heap.size wr w1) => without_any c a P2 P0 k2 k0 w1 (I2.over q) (I0.over q) A0)
            have KL := Lib.hid (Nat.le_trans (List.length_filter_le (fun x => !strWit a x) c) I2.1)
            have KR := Lib.hid (fun x (hx : x ∈ c.filter fun x => !strWit a x) => I2.2.1 x (List.mem_filter.1 hx).1)
            have QR := Lib.hid (fun (w1 : World) (q : Below wr.heap.size wr w1) (A9 : Option Addr) (k9 : Nat) (hi : Ints w1 A9 (c.filter fun x => !strWit a x)) => isPart_any (c.filter fun x => !strWit a x) b A9 P1 k9 k1 w1 hi (I1.over q) A1)
            have ER := Lib.hid (show kindB .union a b c N = ((a.all fun x => c.contains x) && (b.all fun x => c.contains x) && ((c.filter fun x => !strWit a x).all fun x => b.contains x)) by simp [kindB, strWit])
            clear I0 I1 I2 A0 A1 A2
            have hkl := KL.out
            obtain ⟨X3, hX3⟩ : ∃ X, ((c.filter fun x => !strWit a x).all fun x => b.contains x) = X := ⟨_, rfl⟩
            rw [hX3] at ER
            simp only [hX3] at QR
            clear hX3
            generalize (c.filter fun x => !strWit a x) = ks at *
            cases hX1 : (a.all fun x => c.contains x) with
            | false =>
              rw [hX1] at QP ER
              clear hX1
              go_wp2_with fail
              go_quiet (fail)
              go_wp2_with ((go_at_call 54; refine (QP.out _ (drewN_below wr _)).mono ?_; rintro e x1 ⟨rfl, hb⟩; have HX1 := Lib.hid (show Below wr.heap.size wr x1 from ⟨hb.os, hb.tape, hb.output, hb.size, hb.block⟩); clear hb QP))
              go_ret
              rw [EA.out.1, EA.out.2.1, EA.out.2.2]
              exact ⟨by rw [ER.out]; rfl, BWQ.out _ HX1.out⟩
            | true =>
              rw [hX1] at QP ER
              clear hX1
              cases hX2 : (b.all fun x => c.contains x) with
              | false =>
                rw [hX2] at QQ ER
                clear hX2
                go_wp2_with fail
                go_quiet (fail)
                go_wp2_with (first | (go_at_call 54; refine (QP.out _ (drewN_below wr _)).mono ?_; rintro e x1 ⟨rfl, hb⟩; have HX1 := Lib.hid (show Below wr.heap.size wr x1 from ⟨hb.os, hb.tape, hb.output, hb.size, hb.block⟩); clear hb QP) | (go_at_call 54; refine (QQ.out _ HX1.out).mono ?_; rintro e x2 ⟨rfl, hb⟩; have HX2 := Lib.hid (show Below wr.heap.size wr x2 from HX1.out.trans (hb.mono HX1.out.size)); clear hb QQ))
                go_ret
                rw [EA.out.1, EA.out.2.1, EA.out.2.2]
                exact ⟨by rw [ER.out]; rfl, BWQ.out _ HX2.out⟩
              | true =>
                rw [hX2] at QQ ER
                clear hX2
                go_wp2_with fail
                go_quiet (fail)
                go_wp2_with (first | (go_at_call 54; refine (QP.out _ (drewN_below wr _)).mono ?_; rintro e x1 ⟨rfl, hb⟩; have HX1 := Lib.hid (show Below wr.heap.size wr x1 from ⟨hb.os, hb.tape, hb.output, hb.size, hb.block⟩); clear hb QP) | (go_at_call 54; refine (QQ.out _ HX1.out).mono ?_; rintro e x2 ⟨rfl, hb⟩; have HX2 := Lib.hid (show Below wr.heap.size wr x2 from HX1.out.trans (hb.mono HX1.out.size)); clear hb QQ) | (go_at_call 56; refine (QW.out _ HX2.out).mono ?_; rintro e x3 ⟨A9, k9, rfl, hr, hb⟩; have HX3 := Lib.hid (show Below wr.heap.size wr x3 from HX2.out.trans (hb.mono HX2.out.size)); have HI3 := Lib.hid (ints_of_rowAt KL.out KR.out hr); clear hb hr QW) | (go_at_call 54; refine (QR.out _ HX3.out _ _ HI3.out).mono ?_; rintro e x4 ⟨rfl, hb⟩; have HX4 := Lib.hid (show Below wr.heap.size wr x4 from HX3.out.trans (hb.mono HX3.out.size)); clear hb QR))
                go_ret
                rw [EA.out.1, EA.out.2.1, EA.out.2.2]
                exact ⟨by rw [ER.out]; rfl, BWQ.out _ HX4.out⟩
          | meet =>
            obtain ⟨q1, q2, _⟩ := hmm
            injection q1 with q1
            have hlen : vs.length = 3 := by omega
            simp only [Kd.is] at h0 h1 h2 h3 h4 h5 h6 h7
            obtain ⟨P1, k1, s1, I1, A1⟩ := S1 (by omega)
            rw [s1] at e1
            obtain ⟨P2, k2, s2, I2, A2⟩ := S2 (by omega)
            rw [s2] at e2
            clear S1 S2 N1 N2 q1 q2 hlen s0 s1 s2 HM1 HK HM3
            have QC := Lib.hid (fun w1 (q : Below wr.heap.size wr w1) => common_any a b P0 P1 k0 k1 w1 (I0.over q) (I1.over q) A1)
            have KL := Lib.hid (Nat.le_trans (List.length_filter_le (fun x => !strCom b x) a) I0.1)
            have KR := Lib.hid (fun x (hx : x ∈ a.filter fun x => !strCom b x) => I0.2.1 x (List.mem_filter.1 hx).1)
            have QE := Lib.hid (fun (w1 : World) (q : Below wr.heap.size wr w1) (A9 : Option Addr) (k9 : Nat) (hi : Ints w1 A9 (a.filter fun x => !strCom b x)) => equal_any (a.filter fun x => !strCom b x) c A9 P2 k9 k2 w1 hi (I2.over q))
            have ER := Lib.hid (show kindB .meet a b c N = decide ((a.filter fun x => !strCom b x) = c) by simp [kindB, strCom])
            clear I0 I1 I2 A0 A1 A2
            have hkl := KL.out
            generalize (a.filter fun x => !strCom b x) = ks at *
            generalize decide (ks = c) = X at *
            go_wp2_with fail
            go_quiet (fail)
            go_wp2_with (first | (go_at_call 55; refine (QC.out _ (drewN_below wr _)).mono ?_; rintro e x1 ⟨A9, k9, rfl, hr, hb⟩; have HX1 := Lib.hid (show Below wr.heap.size wr x1 from ⟨hb.os, hb.tape, hb.output, hb.size, hb.block⟩); have HI1 := Lib.hid (ints_of_rowAt KL.out KR.out hr); clear hb hr QC) | (go_at_call 44; refine (QE.out _ HX1.out _ _ HI1.out).mono ?_; rintro e x2 ⟨rfl, hb⟩; have HX2 := Lib.hid (show Below wr.heap.size wr x2 from HX1.out.trans (hb.mono HX1.out.size)); clear hb QE))
            go_ret
            rw [EA.out.1, EA.out.2.1, EA.out.2.2]
            exact ⟨by rw [ER.out]; rfl, BWQ.out _ HX2.out⟩
          | minus =>
            obtain ⟨q1, q2, _⟩ := hmm
            injection q1 with q1
            have hlen : vs.length = 3 := by omega
            simp only [Kd.is] at h0 h1 h2 h3 h4 h5 h6 h7
            obtain ⟨P1, k1, s1, I1, A1⟩ := S1 (by omega)
            rw [s1] at e1
            obtain ⟨P2, k2, s2, I2, A2⟩ := S2 (by omega)
            rw [s2] at e2
            clear S1 S2 N1 N2 q1 q2 hlen s0 s1 s2 HM1 HK HM3
            have QC := Lib.hid (fun w1 (q : Below wr.heap.size wr w1) => without_any a b P0 P1 k0 k1 w1 (I0.over q) (I1.over q) A1)
            have KL := Lib.hid (Nat.le_trans (List.length_filter_le (fun x => !strWit b x) a) I0.1)
            have KR := Lib.hid (fun x (hx : x ∈ a.filter fun x => !strWit b x) => I0.2.1 x (List.mem_filter.1 hx).1)
            have QE := Lib.hid (fun (w1 : World) (q : Below wr.heap.size wr w1) (A9 : Option Addr) (k9 : Nat) (hi : Ints w1 A9 (a.filter fun x => !strWit b x)) => equal_any (a.filter fun x => !strWit b x) c A9 P2 k9 k2 w1 hi (I2.over q))
            have ER := Lib.hid (show kindB .minus a b c N = decide ((a.filter fun x => !strWit b x) = c) by simp [kindB, strWit])
            clear I0 I1 I2 A0 A1 A2
            have hkl := KL.out
            generalize (a.filter fun x => !strWit b x) = ks at *
            generalize decide (ks = c) = X at *
            go_wp2_with fail
            go_quiet (fail)
            go_wp2_with (first | (go_at_call 56; refine (QC.out _ (drewN_below wr _)).mono ?_; rintro e x1 ⟨A9, k9, rfl, hr, hb⟩; have HX1 := Lib.hid (show Below wr.heap.size wr x1 from ⟨hb.os, hb.tape, hb.output, hb.size, hb.block⟩); have HI1 := Lib.hid (ints_of_rowAt KL.out KR.out hr); clear hb hr QC) | (go_at_call 44; refine (QE.out _ HX1.out _ _ HI1.out).mono ?_; rintro e x2 ⟨rfl, hb⟩; have HX2 := Lib.hid (show Below wr.heap.size wr x2 from HX1.out.trans (hb.mono HX1.out.size)); clear hb QE))
            go_ret
            rw [EA.out.1, EA.out.2.1, EA.out.2.2]
            exact ⟨by rw [ER.out]; rfl, BWQ.out _ HX2.out⟩
          | has =>
            obtain ⟨q1, q2, _⟩ := hmm
            injection q1 with q1
            have hlen : vs.length = 1 := by omega
            simp only [Kd.is] at h0 h1 h2 h3 h4 h5 h6 h7
            rw [N1 (by omega)] at e1
            rw [N2 (by omega)] at e2
            clear S1 S2 N1 N2 q1 q2 hlen s0 HM1 HK HM3
            have QN := Lib.hid (fun w1 (q : Below wr.heap.size wr w1) => contains_any a N P0 k0 w1 (I0.over q) A0)
            have ER := Lib.hid (show kindB .has a b c N = a.contains N from rfl)
            clear I0 A0
            generalize a.contains N = X at *
            go_wp2_with fail
            go_quiet (fail)
            go_wp2_with ((go_at_call 57; refine (QN.out _ (drewN_below wr _)).mono ?_; rintro e x1 ⟨rfl, hb⟩; have HX1 := Lib.hid (show Below wr.heap.size wr x1 from ⟨hb.os, hb.tape, hb.output, hb.size, hb.block⟩); clear hb QN))
            go_ret
            rw [EA.out.1, EA.out.2.1, EA.out.2.2]
            exact ⟨by rw [ER.out]; rfl, BWQ.out _ HX1.out⟩
          | lacks =>
            obtain ⟨q1, q2, _⟩ := hmm
            injection q1 with q1
            have hlen : vs.length = 1 := by omega
            simp only [Kd.is] at h0 h1 h2 h3 h4 h5 h6 h7
            rw [N1 (by omega)] at e1
            rw [N2 (by omega)] at e2
            clear S1 S2 N1 N2 q1 q2 hlen s0 HM1 HK HM3
            have QN := Lib.hid (fun w1 (q : Below wr.heap.size wr w1) => contains_any a N P0 k0 w1 (I0.over q) A0)
            have ER := Lib.hid (show kindB .lacks a b c N = !a.contains N from rfl)
            clear I0 A0
            generalize a.contains N = X at *
            go_wp2_with fail
            go_quiet (fail)
            go_wp2_with ((go_at_call 57; refine (QN.out _ (drewN_below wr _)).mono ?_; rintro e x1 ⟨rfl, hb⟩; have HX1 := Lib.hid (show Below wr.heap.size wr x1 from ⟨hb.os, hb.tape, hb.output, hb.size, hb.block⟩); clear hb QN))
            go_ret
            rw [EA.out.1, EA.out.2.1, EA.out.2.2]
            exact ⟨by rw [ER.out]; rfl, BWQ.out _ HX1.out⟩
          | size =>
            obtain ⟨q1, q2, _⟩ := hmm
            injection q1 with q1
            have hlen : vs.length = 1 := by omega
            simp only [Kd.is] at h0 h1 h2 h3 h4 h5 h6 h7
            rw [N1 (by omega)] at e1
            rw [N2 (by omega)] at e2
            clear S1 S2 N1 N2 q1 q2 hlen s0 HM1 HK HM3
            have ER := Lib.hid (show kindB .size a b c N = ((a.length : Int) == N) from rfl)
            have hal := I0.1
            clear I0 A0
            go_wp2_with fail
            go_quiet (fail)
            go_wp2_with fail
            go_ret
            rw [EA.out.1, EA.out.2.1, EA.out.2.2]
            exact ⟨by rw [ER.out]; rfl, BWQ.out _ (drewN_below wr _)⟩
          | none =>
            obtain ⟨q1, _⟩ := hmm
            cases q1
end Go.Proofs.YthakhdbakmlooaaDoor
