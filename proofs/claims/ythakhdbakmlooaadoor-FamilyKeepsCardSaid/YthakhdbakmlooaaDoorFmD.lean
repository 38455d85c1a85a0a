/-
  The law FamilyKeeps where all is light.
-/
import Derived.Deep.RegionHeld
import Derived.Test.YthakhdbakmlooaaDoorKaW
namespace Go.Proofs.YthakhdbakmlooaaDoor
set_option linter.unusedSimpArgs false
set_option linter.unusedVariables false
open Go Go.RowKit Go.Shelf Go.Ev


set_option maxRecDepth 100000 in
set_option maxHeartbeats 64000000 in
theorem FamilyKeeps_light (rs : List RelV) (fs : List FamV) (ls : List (List Int)) (A B C : Option Addr) (c1 c2 c3 : Nat) (w : World) (ha : RelsL w A rs) (hb : FamsLie w B fs) (hc : LLF w C ls) (hls : ls.length = fs.length) (hac : RelsC w A rs) (hbc : FamsC w B fs) (hT : TabIn w)
    (h1 : (fs.all famLight && decide (fs.length ≤ 50)) = true) (h2 : (rs.all relLean && decide (rs.length ≤ 110)) = true) :
    Calls Tryd.prog 5 #[.slice A rs.length c1, .slice B fs.length c2, .slice C fs.length c3] w fun e w' => e = .returned (.bool true) ∧ Below w.heap.size w w' := by
  have hw0 := hT.lt
  have AW := Lib.hid (fun w1 (h : Below w.heap.size w w1) => fawake_any w1 (hT.below h hw0))
  have LT := Lib.hid (fun w1 (h : Below w.heap.size w w1) => lights_any fs B c2 w1 (by have := hb.1; omega) (hbc.over h))
  have LN := Lib.hid (fun w1 (h : Below w.heap.size w w1) => leans_any rs A c1 w1 (by have := ha.1; omega) (hac.over h))
  have FX := Lib.hid (fun w1 (h : Below w.heap.size w w1) => Fix_any rs fs A B c1 c2 w1 (ha.over h) (hb.over h) (hT.below h hw0))
  have FY := Lib.hid (fun w1 (h : Below w.heap.size w w1) n (Fs : List FamV) A' c' (hn : Fs.length = n) (hl : FamsLie w1 A' Fs) => show Calls Tryd.prog 26 #[.slice A rs.length c1, .slice A' n c'] w1 (FixRes rs Fs w1) from by
    have := Fix_any rs Fs A A' c1 c' w1 (ha.over h) hl (hT.below h hw0)
    rwa [hn] at this)
  rw [h1] at LT
  rw [h2] at LN
  have HN := Lib.hid (show fs.length ≤ 50 from by simp only [Bool.and_eq_true, decide_eq_true_eq] at h1; exact h1.2)
  have HM := Lib.hid (show rs.length ≤ 110 from by simp only [Bool.and_eq_true, decide_eq_true_eq] at h2; exact h2.2)
  obtain ⟨b3, o3, AF, CF, hcg⟩ := hc.get
  have HC := Lib.hid hcg
  have HLC := Lib.hid hc
  have HA := Lib.hid ha
  have HB := Lib.hid hb
  have HLS := Lib.hid hls
  have B0 := Lib.hid (Below.refl w.heap.size w)
  clear hT hw0 ha hb hc hls hac hbc h1 h2 hcg
  go_enter Tryd.func5, Tryd.ntmps5
  go_wp2_with (first | (go_at_call 7; refine (LT.out _ B0.out).mono ?_; rintro e y1 ⟨rfl, hb⟩; have B1 := Lib.hid hb; clear hb LT) | (go_at_call 23; refine (LN.out _ B1.out).mono ?_; rintro e y2 ⟨rfl, hb⟩; have B2 := Lib.hid (B1.out.trans (hb.mono B1.out.size)); clear hb LN B1))
  refine (FX.out _ B2.out).mono ?_
  rintro e w3 ⟨hres, hbl⟩
  have B3 := Lib.hid (B2.out.trans (hbl.mono B2.out.size))
  clear hbl B2 FX
  rcases hres with ⟨hv, rfl⟩ | ⟨hv, hbad, rfl⟩ | ⟨hv, hok, H, g, hs, hH, rfl, hg, hout⟩
  · clear hv
    go_wp2_with ((go_at_call 8; refine (AW.out _ B3.out).mono ?_; rintro e y9 ⟨rfl, hb⟩; have B4 := Lib.hid (B3.out.trans (hb.mono B3.out.size)); clear hb))
    go_ret
    exact ⟨rfl, B4.out⟩
  · have HV := Lib.hid hv

    have KI := Lib.hid (show ¬ (inUp fs ls fs.length = true ∧ holdUp rs ls rs.length = true) from fun h => by
      obtain ⟨k1, k2⟩ := keeps_in HV.out HLS.out h.1 h.2
      rcases hbad with h0 | ⟨H, h0⟩
      · rw [k1] at h0; cases h0
      · have := (k2 false H h0).1; cases this)
    clear hv hbad

    go_wp2_with fail
    go_loopw [9, 11, 12, 13, 58] (fun inn fx si ss cnt wr => ∃ k : Nat, k ≤ fs.length ∧ cnt = .int .i64 k ∧ inn = .bool (inUp fs ls k) ∧ (∀ i, i < k → (ls.getD i []).length ≤ 100) ∧ wr.ownsRow w3.heap.size 24 4 fx (setFams ls AF CF k).length (flatF (setFams ls AF CF k)) ∧ Below w3.heap.size w3 wr) (fun _ _ _ _ i _ => fs.length - (intOf i).toNat)
    case atStart => exact ⟨0, Nat.zero_le _, rfl, rfl, fun i hi => absurd hi (Nat.not_lt_zero i), World.ownsRow_nil _ _ _ _, Below.refl _ _⟩
    case round =>
      obtain ⟨k, hk, rfl, rfl, h100, hown, hbw⟩ := hrel
      have H100 := Lib.hid h100
      have OW := Lib.hid hown
      have B3R := Lib.hid hbw
      have BW := Lib.hid (B3.out.trans (hbw.mono B3.out.size))
      clear h100 hown hbw
      by_cases hlt : k < fs.length
      · obtain ⟨eC, hb3, hcell, hints⟩ := HC.out k (by rw [HLS.out]; exact hlt)
        have x1 := (BW.out.cell (p := ⟨b3, o3 + k, none⟩) hb3).trans hcell
        have IS := Lib.hid (fun w1 (h : Below w.heap.size w w1) => hints.over h)
        have SK := Lib.hid (setFams_succ ls AF CF k)
        have IK := Lib.hid (inUp_succ fs ls k hlt)
        have HS0 := Lib.hid (show ∀ i, i < k → (ls.getD i []).length ≤ 100 from H100.out)
        have HSK := Lib.hid (show (ls.getD k []).length ≤ 100 → ∀ i, i < k + 1 → (ls.getD i []).length ≤ 100 from fun h i hi => by
          rcases Nat.lt_or_ge i k with h1 | h1
          · exact HS0.out i h1
          · obtain rfl : i = k := by omega
            exact h)
        have EC := Lib.hid eC
        clear hcell hints eC hb3 H100 HS0
        generalize ls.getD k [] = s at *
        obtain ⟨b2, o2, rfl, hb2, hf⟩ := HB.out.2 (by omega)
        have LI := Lib.hid ((hf k hlt).over hb2 BW.out)
        clear hf hb2
        generalize fs[k] = f at *
        obtain rfl := EC.out
        have z1 : (k : Int) < (fs.length : Int) := by omega
        have z2 : (0 : Int) ≤ (k : Int) := by omega
        have z3 : fs.length ≤ 50 := HN.out
        by_cases hs1 : (100 : Int) < (s.length : Int)
        · clear LI
          go_wp2_with ((go_at_call 8; refine (AW.out _ BW.out).mono ?_; rintro e y9 ⟨rfl, hb⟩; have B4 := Lib.hid (BW.out.trans (hb.mono BW.out.size)); clear hb))
          go_ret
          exact ⟨rfl, B4.out⟩
        · have HS1 := Lib.hid (show s.length ≤ 100 from by omega)
          have IS2 := Lib.hid (fun w1 (h : Below w.heap.size w w1) => (IS.out w1 h).small (by have := HS1.out; omega))
          obtain ⟨a0, a1, a2, a3, a4, a5⟩ := LI.out
          have HP := Lib.hid (fun w1 (h : Below wr.heap.size wr w1) => Has_fp_any f.lo f.hi f.mn f.mx s f.A f.B (AF k) f.c1 f.c2 (CF k) w1 (a4.over h) (a5.over h) (IS2.out w1 (BW.out.trans (h.mono BW.out.size))))
          have HF := Lib.hid (show hasF f s = hasFB f.lo f.hi f.mn f.mx s from rfl)
          clear a4 a5 LI
          generalize hasFB f.lo f.hi f.mn f.mx s = hfb at *
          cases hin : inUp fs ls k with
          | false =>
            have IN := Lib.hid hin
            clear hin HP a0 a1 a2 a3
            repeat ((fail_if_success (at_builtin; refine wpList_append_fam (w0 := wr) rfl _ _ rfl w3.heap.size _ (setFams ls AF CF k) (setFam s (AF k) (CF k)) (by go_simp) OW.out 1 1 rfl ?_ ?_ ?_)); go_step)
            (at_builtin; refine wpList_append_fam (w0 := wr) rfl _ _ rfl w3.heap.size _ (setFams ls AF CF k) (setFam s (AF k) (CF k)) (by go_simp) OW.out 1 1 rfl (by rw [setFams_length]; have := HN.out; omega) B3R.out.size ?_; intro v' w' ho' hg'; have HO := Lib.hid ho'; have HG := Lib.hid (Below.grown (B3R.out.alloc B3R.out.size _) hg' (Nat.le_trans B3R.out.size (by simp)) (fun j e => (OW.out.lt j e).1)); clear ho' hg')
            go_wp2_with fail
            go_roundw
            case rel =>
              refine ⟨k + 1, by omega, by go_num, by rw [IK.out, IN.out, HF.out]; rfl, HSK.out HS1.out, by rw [SK.out]; exact HO.out, HG.out⟩
            case measure => simp [intOf]; omega
          | true =>
            have IN := Lib.hid hin
            clear hin
            go_upto_region 16 with (go_at_call 19; refine (HP.out _ (Below.refl _ _)).mono ?_; rintro e w4 ⟨rfl, hb⟩; have OW4 := Lib.hid (owns_over OW.out hb); have B4R := Lib.hid (B3R.out.trans (hb.mono B3R.out.size)); clear hb HP a0 a1 a2 a3)

            repeat ((fail_if_success (at_builtin; refine wpList_append_fam (w0 := w4) rfl _ _ rfl w3.heap.size _ (setFams ls AF CF k) (setFam s (AF k) (CF k)) (by go_simp) OW4.out 1 1 rfl ?_ ?_ ?_)); go_step)
            (at_builtin; refine wpList_append_fam (w0 := w4) rfl _ _ rfl w3.heap.size _ (setFams ls AF CF k) (setFam s (AF k) (CF k)) (by go_simp) OW4.out 1 1 rfl (by rw [setFams_length]; have := HN.out; omega) B4R.out.size ?_; intro v' w' ho' hg'; have HO := Lib.hid ho'; have HG := Lib.hid (Below.grown (B4R.out.alloc B4R.out.size _) hg' (Nat.le_trans B4R.out.size (by simp)) (fun j e => (OW4.out.lt j e).1)); clear ho' hg')
            go_wp2_with fail
            go_roundw
            case rel =>
              refine ⟨k + 1, by omega, by go_num, by rw [IK.out, IN.out, HF.out]; rfl, HSK.out HS1.out, by rw [SK.out]; exact HO.out, HG.out⟩
            case measure => simp [intOf]; omega
      · obtain rfl : k = fs.length := by omega
        obtain ⟨w5, rfl⟩ : ∃ x, x = wr := ⟨_, rfl⟩
        have HX := Lib.hid (show ∀ i, i < fs.length → (ls.getD i []).length ≤ 100 from H100.out)
        obtain ⟨A', c', hu, hl4⟩ := fams_of_owns (by rw [setFams_length]; have := HN.out; omega) OW.out (fun f hf => by
          obtain ⟨i, hi, rfl⟩ := List.mem_map.1 hf
          have hi := List.mem_range.1 hi
          have q := ((HC.out i (by rw [HLS.out]; exact hi)).2.2.2.over BW.out).small (by have := HX.out i hi; omega)
          exact ⟨q, q⟩)
        rw [setFams_length] at hu
        subst hu
        have FXQ := Lib.hid (fun w1 (h : Below w.heap.size w w1) (h2 : Below w5.heap.size w5 w1) => FY.out w1 h fs.length (setFams ls AF CF fs.length) A' c' (setFams_length _ _ _ _) (hl4.over h2))
        have HLL := Lib.hid (HLC.out.small (by have := HLS.out; have := HN.out; omega) (fun l hl => by
          obtain ⟨i, hi, rfl⟩ := List.mem_iff_getElem.1 hl
          have := HX.out i (by rw [← HLS.out]; exact hi)
          rw [List.getD_eq_getElem?_getD, List.getElem?_eq_getElem hi] at this
          exact Nat.le_trans this (by decide)))
        have HH := Lib.hid (fun w1 (h : Below w.heap.size w w1) (r : RelV) (hk : KF r.k.toList r.d) (hi : Ints w1 r.A r.vs) => show Calls Tryd.prog 24 #[.agg #[.string r.k, .slice r.A r.vs.length r.c, .int .i64 r.N], .slice C fs.length c3] w1 fun e w' => e = .returned (.bool (holdPB r.d r.vs r.N ls)) ∧ Below w1.heap.size w1 w' from by
          have := Holds_p_any r.k r.d hk r.vs r.N ls r.A C r.c c3 w1 hi (HLL.out.over h)
          rwa [HLS.out] at this)
        have KQ := Lib.hid (fun (hv : validP rs (setFams ls AF CF fs.length) = true) => keeps_fix hv HLS.out)
        clear OW H100 hl4 FY HLC HLL
        generalize inUp fs ls fs.length = I at *
        go_wp2_with fail
        go_loopw [10, 15, 85] (fun al _ cnt wq => ∃ k2 : Nat, k2 ≤ rs.length ∧ cnt = .int .i64 k2 ∧ al = .bool (holdUp rs ls k2) ∧ Below w5.heap.size w5 wq) (fun _ _ i _ => rs.length - (intOf i).toNat)
        case atStart => exact ⟨0, Nat.zero_le _, rfl, rfl, Below.refl _ _⟩
        case round =>
          obtain ⟨wq, rfl⟩ : ∃ x, x = wr := ⟨_, rfl⟩
          obtain ⟨k2, hk2, rfl, rfl, hbw⟩ := hrel
          have BQ := Lib.hid hbw
          have BWQ := Lib.hid (BW.out.trans (hbw.mono BW.out.size))
          clear hbw
          by_cases hlt : k2 < rs.length
          · obtain ⟨b1, o1, eA, hb1, hf⟩ := HA.out.2 (by omega)
            have LI := Lib.hid ((hf k2 hlt).over hb1 BWQ.out)
            have HK := Lib.hid (holdUp_succ rs ls k2 hlt)
            have EA := Lib.hid eA
            clear hf hb1 eA
            generalize rs[k2] = r at *
            obtain rfl := EA.out
            obtain ⟨a0, a1, a2, a3, a4⟩ := LI.out
            have HHR := Lib.hid (fun w1 (h : Below wq.heap.size wq w1) => HH.out w1 (BWQ.out.trans (h.mono BWQ.out.size)) r a3 (a4.over h))
            clear a3 a4 LI
            generalize holdPB r.d r.vs r.N ls = hb2 at *
            have z1 : (k2 : Int) < (rs.length : Int) := by omega
            have z2 : (0 : Int) ≤ (k2 : Int) := by omega
            have z3 : rs.length ≤ 110 := HM.out
            have BA := Lib.hid (show Below wq.heap.size wq (wq.alloc (.cells #[.string r.k, .slice r.A r.vs.length r.c, .int .i64 r.N] 38)) from (Below.refl _ wq).alloc (Nat.le_refl _) _)
            cases hal : holdUp rs ls k2 with
            | false =>
              have AL := Lib.hid hal
              clear hal HHR
              go_wp2_with fail
              go_roundw
              case rel => exact ⟨k2 + 1, by omega, by go_num, by rw [HK.out, AL.out]; rfl, BQ.out.trans (BA.out.mono BQ.out.size)⟩
              case measure => simp [intOf]; omega
            | true =>
              have AL := Lib.hid hal
              clear hal
              go_wp2_with (go_at_call 24; refine (HHR.out _ BA.out).mono ?_; rintro e w8 ⟨rfl, hb⟩; have H8 := Lib.hid (BA.out.trans (hb.mono BA.out.size)); clear hb HHR a0 a1 a2)
              go_roundw
              case rel => exact ⟨k2 + 1, by omega, by go_num, by rw [HK.out, AL.out]; rfl, BQ.out.trans (H8.out.mono BQ.out.size)⟩
              case measure => simp [intOf]; omega
          · obtain rfl : k2 = rs.length := by omega
            clear HH
            generalize holdUp rs ls rs.length = L at *
            cases I with
            | false =>
              go_wp2_with fail
              refine (FXQ.out _ BWQ.out BQ.out).mono ?_
              rintro e w6 ⟨hres, hbl⟩
              have B6 := Lib.hid (BWQ.out.trans (hbl.mono BWQ.out.size))
              clear hbl
              simp only [setFams_length] at hres
              rcases hres with ⟨hv, rfl⟩ | ⟨hv, hbad, rfl⟩ | ⟨hv, hok, H6, g6, hs6, hH6, rfl, hg6, hout6⟩
              · clear hv
                go_wp2_with (go_at_call 8; refine (AW.out _ B6.out).mono ?_; rintro e y9 ⟨rfl, hb⟩; have B9 := Lib.hid (B6.out.trans (hb.mono B6.out.size)); clear hb)
                go_ret
                exact ⟨rfl, B9.out⟩
              · have hL : L = false := by
                  obtain ⟨k1, k2⟩ := KQ.out hv
                  rcases hbad with h0 | ⟨H, h0⟩
                  · exact absurd (k1.symm.trans h0) (by decide)
                  · exact ((k2 false H h0).1).symm
                subst hL
                clear hv hbad
                go_wp2_with fail
                go_loopw [20, 21, 143] (fun _ _ cnt wz => ∃ k4 : Nat, k4 ≤ fs.length ∧ cnt = .int .i64 k4 ∧ Below w6.heap.size w6 wz) (fun _ _ i _ => fs.length - (intOf i).toNat)
                case atStart => exact ⟨0, Nat.zero_le _, rfl, Below.refl _ _⟩
                case round =>
                  obtain ⟨wz, rfl⟩ : ∃ x, x = wr := ⟨_, rfl⟩
                  obtain ⟨k4, hk4, rfl, hbw⟩ := hrel
                  have BZ := Lib.hid hbw
                  have BWZ := Lib.hid (B6.out.trans (hbw.mono B6.out.size))
                  clear hbw
                  by_cases hlt : k4 < fs.length
                  · obtain ⟨eC, hb3, hcell, hints⟩ := HC.out k4 (by rw [HLS.out]; exact hlt)
                    have x1 := (BWZ.out.cell (p := ⟨b3, o3 + k4, none⟩) hb3).trans hcell
                    have HI := Lib.hid (hints.small (by have := HX.out k4 hlt; omega))
                    have EC := Lib.hid eC
                    clear hcell hints eC hb3
                    generalize ls.getD k4 [] = s at *
                    obtain rfl := EC.out
                    have z1 : (k4 : Int) < (fs.length : Int) := by omega
                    have z2 : (0 : Int) ≤ (k4 : Int) := by omega
                    have z3 : fs.length ≤ 50 := HN.out
                    go_wp2_with fail
                    go_roundw
                    case rel => exact ⟨k4 + 1, by omega, by go_num, BZ.out⟩
                    case measure => simp [intOf]; omega
                  · obtain rfl : k4 = fs.length := by omega
                    go_wp2_with (go_at_call 8; refine (AW.out _ BWZ.out).mono ?_; rintro e y9 ⟨rfl, hb⟩; have B9 := Lib.hid (BWZ.out.trans (hb.mono BWZ.out.size)); clear hb)
                    go_ret
                    exact ⟨rfl, B9.out⟩
              · have hL : L = true := (((KQ.out hv).2 true H6 hs6).1).symm
                subst hL
                obtain ⟨bs, hal6, hlie6, heq6⟩ := fams_read0 (by have := HN.out; omega) hH6 hout6
                have KJ := Lib.hid (show ∀ i (hi : i < bs.length), (validFB bs[i].lo bs[i].hi bs[i].mn bs[i].mx && decide (bs[i].lo = bs[i].hi)) = true ∧ hasFB bs[i].lo bs[i].hi bs[i].mn bs[i].mx (ls.getD i []) = true from fun i hi => by
                  obtain ⟨e1, e2, e3, e4⟩ := heq6 i hi
                  rw [e1, e2, e3, e4]
                  exact (((KQ.out hv).2 true H6 hs6).2 rfl hH6 i (by omega)))
                have HBS := Lib.hid hlie6
                have HBL := Lib.hid hal6
                clear hv hok hs6 hH6 hg6 hout6 hlie6 heq6 hal6
                go_wp2_with fail
                go_loopw [20, 21, 143] (fun _ _ cnt wz => ∃ k4 : Nat, k4 ≤ fs.length ∧ cnt = .int .i64 k4 ∧ Below w6.heap.size w6 wz) (fun _ _ i _ => fs.length - (intOf i).toNat)
                case atStart => exact ⟨0, Nat.zero_le _, rfl, Below.refl _ _⟩
                case round =>
                  obtain ⟨wz, rfl⟩ : ∃ x, x = wr := ⟨_, rfl⟩
                  obtain ⟨k4, hk4, rfl, hbw⟩ := hrel
                  have BZ := Lib.hid hbw
                  have BWZ := Lib.hid (B6.out.trans (hbw.mono B6.out.size))
                  clear hbw
                  by_cases hlt : k4 < fs.length
                  · obtain ⟨eC, hb3, hcell, hints⟩ := HC.out k4 (by rw [HLS.out]; exact hlt)
                    have x1 := (BWZ.out.cell (p := ⟨b3, o3 + k4, none⟩) hb3).trans hcell
                    have HI := Lib.hid (hints.small (by have := HX.out k4 hlt; omega))
                    have EC := Lib.hid eC
                    clear hcell hints eC hb3
                    have KJK := Lib.hid (KJ.out k4 (by rw [HBL.out]; exact hlt))
                    obtain ⟨bb, ob, eb, hbb, hfb⟩ := HBS.out.2 (by rw [HBL.out]; omega)
                    injection eb with eb
                    injection eb with eb1 eb2 eb3
                    subst eb1 eb2
                    have hlt2 : k4 < bs.length := by rw [HBL.out]; exact hlt
                    have LJ := Lib.hid (fun w1 (h : Below w6.heap.size w6 w1) => (hfb k4 hlt2).over hbb h)
                    clear hfb hbb
                    generalize bs[k4] = f at *
                    clear hlt2
                    generalize ls.getD k4 [] = s at *
                    obtain rfl := EC.out
                    simp only [Nat.zero_add] at LJ
                    obtain ⟨a0, a1, a2, a3, a4, a5⟩ := LJ.out wz BZ.out
                    have FXD := Lib.hid (fun w1 (h : Below wz.heap.size wz w1) => Fixed_p_any f.lo f.hi f.mn f.mx f.A f.B f.c1 f.c2 w1 (a4.over h) (a5.over h))
                    have HPF := Lib.hid (fun w1 (h : Below wz.heap.size wz w1) => Has_fp_any f.lo f.hi f.mn f.mx s f.A f.B (AF k4) f.c1 f.c2 (CF k4) w1 (a4.over h) (a5.over h) (HI.out.over (BWZ.out.trans (h.mono BWZ.out.size))))
                    rw [KJK.out.1] at FXD
                    rw [KJK.out.2] at HPF
                    clear a4 a5 KJK
                    have z1 : (k4 : Int) < (fs.length : Int) := by omega
                    have z2 : (0 : Int) ≤ (k4 : Int) := by omega
                    have z3 : fs.length ≤ 50 := HN.out
                    go_upto_region 42 with (first | (go_at_call 17; refine (FXD.out _ (Below.refl _ _)).mono ?_; rintro e w7 ⟨rfl, hb⟩; have H7 := Lib.hid hb; clear hb FXD a0 a1 a2 a3; obtain ⟨a0, a1, a2, a3, _, _⟩ := LJ.out w7 (BZ.out.trans (H7.out.mono BZ.out.size))) | (go_at_call 19; refine (HPF.out _ H7.out).mono ?_; rintro e w8 ⟨rfl, hb⟩; have H8 := Lib.hid (H7.out.trans (hb.mono H7.out.size)); clear hb HPF a0 a1 a2 a3))
                    go_wp2_with fail
                    go_roundw
                    case rel => exact ⟨k4 + 1, by omega, by go_num, BZ.out.trans (H8.out.mono BZ.out.size)⟩
                    case measure => simp [intOf]; omega
                  · obtain rfl : k4 = fs.length := by omega
                    go_wp2_with (go_at_call 8; refine (AW.out _ BWZ.out).mono ?_; rintro e y9 ⟨rfl, hb⟩; have B9 := Lib.hid (BWZ.out.trans (hb.mono BWZ.out.size)); clear hb)
                    go_ret
                    exact ⟨rfl, B9.out⟩
            | true =>
              cases L with
              | false =>
                go_wp2_with fail
                refine (FXQ.out _ BWQ.out BQ.out).mono ?_
                rintro e w6 ⟨hres, hbl⟩
                have B6 := Lib.hid (BWQ.out.trans (hbl.mono BWQ.out.size))
                clear hbl
                simp only [setFams_length] at hres
                rcases hres with ⟨hv, rfl⟩ | ⟨hv, hbad, rfl⟩ | ⟨hv, hok, H6, g6, hs6, hH6, rfl, hg6, hout6⟩
                · clear hv
                  go_wp2_with (go_at_call 8; refine (AW.out _ B6.out).mono ?_; rintro e y9 ⟨rfl, hb⟩; have B9 := Lib.hid (B6.out.trans (hb.mono B6.out.size)); clear hb)
                  go_ret
                  exact ⟨rfl, B9.out⟩
                · have hL : false = false := by
                    obtain ⟨k1, k2⟩ := KQ.out hv
                    rcases hbad with h0 | ⟨H, h0⟩
                    · exact absurd (k1.symm.trans h0) (by decide)
                    · exact ((k2 false H h0).1).symm
                  clear hL
                  clear hv hbad
                  go_wp2_with fail
                  go_loopw [20, 21, 143] (fun _ _ cnt wz => ∃ k4 : Nat, k4 ≤ fs.length ∧ cnt = .int .i64 k4 ∧ Below w6.heap.size w6 wz) (fun _ _ i _ => fs.length - (intOf i).toNat)
                  case atStart => exact ⟨0, Nat.zero_le _, rfl, Below.refl _ _⟩
                  case round =>
                    obtain ⟨wz, rfl⟩ : ∃ x, x = wr := ⟨_, rfl⟩
                    obtain ⟨k4, hk4, rfl, hbw⟩ := hrel
                    have BZ := Lib.hid hbw
                    have BWZ := Lib.hid (B6.out.trans (hbw.mono B6.out.size))
                    clear hbw
                    by_cases hlt : k4 < fs.length
                    · obtain ⟨eC, hb3, hcell, hints⟩ := HC.out k4 (by rw [HLS.out]; exact hlt)
                      have x1 := (BWZ.out.cell (p := ⟨b3, o3 + k4, none⟩) hb3).trans hcell
                      have HI := Lib.hid (hints.small (by have := HX.out k4 hlt; omega))
                      have EC := Lib.hid eC
                      clear hcell hints eC hb3
                      generalize ls.getD k4 [] = s at *
                      obtain rfl := EC.out
                      have z1 : (k4 : Int) < (fs.length : Int) := by omega
                      have z2 : (0 : Int) ≤ (k4 : Int) := by omega
                      have z3 : fs.length ≤ 50 := HN.out
                      go_wp2_with fail
                      go_roundw
                      case rel => exact ⟨k4 + 1, by omega, by go_num, BZ.out⟩
                      case measure => simp [intOf]; omega
                    · obtain rfl : k4 = fs.length := by omega
                      go_wp2_with (go_at_call 8; refine (AW.out _ BWZ.out).mono ?_; rintro e y9 ⟨rfl, hb⟩; have B9 := Lib.hid (BWZ.out.trans (hb.mono BWZ.out.size)); clear hb)
                      go_ret
                      exact ⟨rfl, B9.out⟩
                · have hL : false = true := (((KQ.out hv).2 true H6 hs6).1).symm
                  cases hL
              | true =>
                exact absurd ⟨by first | rfl | trivial, by first | rfl | trivial⟩ KI.out
  · have HV := Lib.hid hv

    obtain ⟨gs, hal, hlie, heq⟩ := fams_read0 (by have := HN.out; omega) hH hout
    have KI := Lib.hid (show inUp fs ls fs.length = true → holdUp rs ls rs.length = true → ∀ i (hi : i < gs.length), hasFB gs[i].lo gs[i].hi gs[i].mn gs[i].mx (ls.getD i []) = true from fun h1 h2 i hi => by
      obtain ⟨e1, e2, e3, e4⟩ := heq i hi
      rw [e1, e2, e3, e4]
      exact ((keeps_in HV.out HLS.out h1 h2).2 true H hs).2 hH i (by omega))
    have HAS := Lib.hid hlie
    have HAL := Lib.hid hal
    clear hv hok hs hH hg hout hlie heq hal

    go_wp2_with fail
    go_loopw [9, 11, 12, 13, 58] (fun inn fx si ss cnt wr => ∃ k : Nat, k ≤ fs.length ∧ cnt = .int .i64 k ∧ inn = .bool (inUp fs ls k) ∧ (∀ i, i < k → (ls.getD i []).length ≤ 100) ∧ wr.ownsRow w3.heap.size 24 4 fx (setFams ls AF CF k).length (flatF (setFams ls AF CF k)) ∧ Below w3.heap.size w3 wr) (fun _ _ _ _ i _ => fs.length - (intOf i).toNat)
    case atStart => exact ⟨0, Nat.zero_le _, rfl, rfl, fun i hi => absurd hi (Nat.not_lt_zero i), World.ownsRow_nil _ _ _ _, Below.refl _ _⟩
    case round =>
      obtain ⟨k, hk, rfl, rfl, h100, hown, hbw⟩ := hrel
      have H100 := Lib.hid h100
      have OW := Lib.hid hown
      have B3R := Lib.hid hbw
      have BW := Lib.hid (B3.out.trans (hbw.mono B3.out.size))
      clear h100 hown hbw
      by_cases hlt : k < fs.length
      · obtain ⟨eC, hb3, hcell, hints⟩ := HC.out k (by rw [HLS.out]; exact hlt)
        have x1 := (BW.out.cell (p := ⟨b3, o3 + k, none⟩) hb3).trans hcell
        have IS := Lib.hid (fun w1 (h : Below w.heap.size w w1) => hints.over h)
        have SK := Lib.hid (setFams_succ ls AF CF k)
        have IK := Lib.hid (inUp_succ fs ls k hlt)
        have HS0 := Lib.hid (show ∀ i, i < k → (ls.getD i []).length ≤ 100 from H100.out)
        have HSK := Lib.hid (show (ls.getD k []).length ≤ 100 → ∀ i, i < k + 1 → (ls.getD i []).length ≤ 100 from fun h i hi => by
          rcases Nat.lt_or_ge i k with h1 | h1
          · exact HS0.out i h1
          · obtain rfl : i = k := by omega
            exact h)
        have EC := Lib.hid eC
        clear hcell hints eC hb3 H100 HS0
        generalize ls.getD k [] = s at *
        obtain ⟨b2, o2, rfl, hb2, hf⟩ := HB.out.2 (by omega)
        have LI := Lib.hid ((hf k hlt).over hb2 BW.out)
        clear hf hb2
        generalize fs[k] = f at *
        obtain rfl := EC.out
        have z1 : (k : Int) < (fs.length : Int) := by omega
        have z2 : (0 : Int) ≤ (k : Int) := by omega
        have z3 : fs.length ≤ 50 := HN.out
        by_cases hs1 : (100 : Int) < (s.length : Int)
        · clear LI
          go_wp2_with ((go_at_call 8; refine (AW.out _ BW.out).mono ?_; rintro e y9 ⟨rfl, hb⟩; have B4 := Lib.hid (BW.out.trans (hb.mono BW.out.size)); clear hb))
          go_ret
          exact ⟨rfl, B4.out⟩
        · have HS1 := Lib.hid (show s.length ≤ 100 from by omega)
          have IS2 := Lib.hid (fun w1 (h : Below w.heap.size w w1) => (IS.out w1 h).small (by have := HS1.out; omega))
          obtain ⟨a0, a1, a2, a3, a4, a5⟩ := LI.out
          have HP := Lib.hid (fun w1 (h : Below wr.heap.size wr w1) => Has_fp_any f.lo f.hi f.mn f.mx s f.A f.B (AF k) f.c1 f.c2 (CF k) w1 (a4.over h) (a5.over h) (IS2.out w1 (BW.out.trans (h.mono BW.out.size))))
          have HF := Lib.hid (show hasF f s = hasFB f.lo f.hi f.mn f.mx s from rfl)
          clear a4 a5 LI
          generalize hasFB f.lo f.hi f.mn f.mx s = hfb at *
          cases hin : inUp fs ls k with
          | false =>
            have IN := Lib.hid hin
            clear hin HP a0 a1 a2 a3
            repeat ((fail_if_success (at_builtin; refine wpList_append_fam (w0 := wr) rfl _ _ rfl w3.heap.size _ (setFams ls AF CF k) (setFam s (AF k) (CF k)) (by go_simp) OW.out 1 1 rfl ?_ ?_ ?_)); go_step)
            (at_builtin; refine wpList_append_fam (w0 := wr) rfl _ _ rfl w3.heap.size _ (setFams ls AF CF k) (setFam s (AF k) (CF k)) (by go_simp) OW.out 1 1 rfl (by rw [setFams_length]; have := HN.out; omega) B3R.out.size ?_; intro v' w' ho' hg'; have HO := Lib.hid ho'; have HG := Lib.hid (Below.grown (B3R.out.alloc B3R.out.size _) hg' (Nat.le_trans B3R.out.size (by simp)) (fun j e => (OW.out.lt j e).1)); clear ho' hg')
            go_wp2_with fail
            go_roundw
            case rel =>
              refine ⟨k + 1, by omega, by go_num, by rw [IK.out, IN.out, HF.out]; rfl, HSK.out HS1.out, by rw [SK.out]; exact HO.out, HG.out⟩
            case measure => simp [intOf]; omega
          | true =>
            have IN := Lib.hid hin
            clear hin
            go_upto_region 16 with (go_at_call 19; refine (HP.out _ (Below.refl _ _)).mono ?_; rintro e w4 ⟨rfl, hb⟩; have OW4 := Lib.hid (owns_over OW.out hb); have B4R := Lib.hid (B3R.out.trans (hb.mono B3R.out.size)); clear hb HP a0 a1 a2 a3)

            repeat ((fail_if_success (at_builtin; refine wpList_append_fam (w0 := w4) rfl _ _ rfl w3.heap.size _ (setFams ls AF CF k) (setFam s (AF k) (CF k)) (by go_simp) OW4.out 1 1 rfl ?_ ?_ ?_)); go_step)
            (at_builtin; refine wpList_append_fam (w0 := w4) rfl _ _ rfl w3.heap.size _ (setFams ls AF CF k) (setFam s (AF k) (CF k)) (by go_simp) OW4.out 1 1 rfl (by rw [setFams_length]; have := HN.out; omega) B4R.out.size ?_; intro v' w' ho' hg'; have HO := Lib.hid ho'; have HG := Lib.hid (Below.grown (B4R.out.alloc B4R.out.size _) hg' (Nat.le_trans B4R.out.size (by simp)) (fun j e => (OW4.out.lt j e).1)); clear ho' hg')
            go_wp2_with fail
            go_roundw
            case rel =>
              refine ⟨k + 1, by omega, by go_num, by rw [IK.out, IN.out, HF.out]; rfl, HSK.out HS1.out, by rw [SK.out]; exact HO.out, HG.out⟩
            case measure => simp [intOf]; omega
      · obtain rfl : k = fs.length := by omega
        obtain ⟨w5, rfl⟩ : ∃ x, x = wr := ⟨_, rfl⟩
        have HX := Lib.hid (show ∀ i, i < fs.length → (ls.getD i []).length ≤ 100 from H100.out)
        obtain ⟨A', c', hu, hl4⟩ := fams_of_owns (by rw [setFams_length]; have := HN.out; omega) OW.out (fun f hf => by
          obtain ⟨i, hi, rfl⟩ := List.mem_map.1 hf
          have hi := List.mem_range.1 hi
          have q := ((HC.out i (by rw [HLS.out]; exact hi)).2.2.2.over BW.out).small (by have := HX.out i hi; omega)
          exact ⟨q, q⟩)
        rw [setFams_length] at hu
        subst hu
        have FXQ := Lib.hid (fun w1 (h : Below w.heap.size w w1) (h2 : Below w5.heap.size w5 w1) => FY.out w1 h fs.length (setFams ls AF CF fs.length) A' c' (setFams_length _ _ _ _) (hl4.over h2))
        have HLL := Lib.hid (HLC.out.small (by have := HLS.out; have := HN.out; omega) (fun l hl => by
          obtain ⟨i, hi, rfl⟩ := List.mem_iff_getElem.1 hl
          have := HX.out i (by rw [← HLS.out]; exact hi)
          rw [List.getD_eq_getElem?_getD, List.getElem?_eq_getElem hi] at this
          exact Nat.le_trans this (by decide)))
        have HH := Lib.hid (fun w1 (h : Below w.heap.size w w1) (r : RelV) (hk : KF r.k.toList r.d) (hi : Ints w1 r.A r.vs) => show Calls Tryd.prog 24 #[.agg #[.string r.k, .slice r.A r.vs.length r.c, .int .i64 r.N], .slice C fs.length c3] w1 fun e w' => e = .returned (.bool (holdPB r.d r.vs r.N ls)) ∧ Below w1.heap.size w1 w' from by
          have := Holds_p_any r.k r.d hk r.vs r.N ls r.A C r.c c3 w1 hi (HLL.out.over h)
          rwa [HLS.out] at this)
        have KQ := Lib.hid (fun (hv : validP rs (setFams ls AF CF fs.length) = true) => keeps_fix hv HLS.out)
        clear OW H100 hl4 FY HLC HLL
        generalize inUp fs ls fs.length = I at *
        go_wp2_with fail
        go_loopw [10, 15, 85] (fun al _ cnt wq => ∃ k2 : Nat, k2 ≤ rs.length ∧ cnt = .int .i64 k2 ∧ al = .bool (holdUp rs ls k2) ∧ Below w5.heap.size w5 wq) (fun _ _ i _ => rs.length - (intOf i).toNat)
        case atStart => exact ⟨0, Nat.zero_le _, rfl, rfl, Below.refl _ _⟩
        case round =>
          obtain ⟨wq, rfl⟩ : ∃ x, x = wr := ⟨_, rfl⟩
          obtain ⟨k2, hk2, rfl, rfl, hbw⟩ := hrel
          have BQ := Lib.hid hbw
          have BWQ := Lib.hid (BW.out.trans (hbw.mono BW.out.size))
          clear hbw
          by_cases hlt : k2 < rs.length
          · obtain ⟨b1, o1, eA, hb1, hf⟩ := HA.out.2 (by omega)
            have LI := Lib.hid ((hf k2 hlt).over hb1 BWQ.out)
            have HK := Lib.hid (holdUp_succ rs ls k2 hlt)
            have EA := Lib.hid eA
            clear hf hb1 eA
            generalize rs[k2] = r at *
            obtain rfl := EA.out
            obtain ⟨a0, a1, a2, a3, a4⟩ := LI.out
            have HHR := Lib.hid (fun w1 (h : Below wq.heap.size wq w1) => HH.out w1 (BWQ.out.trans (h.mono BWQ.out.size)) r a3 (a4.over h))
            clear a3 a4 LI
            generalize holdPB r.d r.vs r.N ls = hb2 at *
            have z1 : (k2 : Int) < (rs.length : Int) := by omega
            have z2 : (0 : Int) ≤ (k2 : Int) := by omega
            have z3 : rs.length ≤ 110 := HM.out
            have BA := Lib.hid (show Below wq.heap.size wq (wq.alloc (.cells #[.string r.k, .slice r.A r.vs.length r.c, .int .i64 r.N] 38)) from (Below.refl _ wq).alloc (Nat.le_refl _) _)
            cases hal : holdUp rs ls k2 with
            | false =>
              have AL := Lib.hid hal
              clear hal HHR
              go_wp2_with fail
              go_roundw
              case rel => exact ⟨k2 + 1, by omega, by go_num, by rw [HK.out, AL.out]; rfl, BQ.out.trans (BA.out.mono BQ.out.size)⟩
              case measure => simp [intOf]; omega
            | true =>
              have AL := Lib.hid hal
              clear hal
              go_wp2_with (go_at_call 24; refine (HHR.out _ BA.out).mono ?_; rintro e w8 ⟨rfl, hb⟩; have H8 := Lib.hid (BA.out.trans (hb.mono BA.out.size)); clear hb HHR a0 a1 a2)
              go_roundw
              case rel => exact ⟨k2 + 1, by omega, by go_num, by rw [HK.out, AL.out]; rfl, BQ.out.trans (H8.out.mono BQ.out.size)⟩
              case measure => simp [intOf]; omega
          · obtain rfl : k2 = rs.length := by omega
            clear HH
            generalize holdUp rs ls rs.length = L at *
            cases I with
            | false =>
              go_wp2_with fail
              refine (FXQ.out _ BWQ.out BQ.out).mono ?_
              rintro e w6 ⟨hres, hbl⟩
              have B6 := Lib.hid (BWQ.out.trans (hbl.mono BWQ.out.size))
              clear hbl
              simp only [setFams_length] at hres
              rcases hres with ⟨hv, rfl⟩ | ⟨hv, hbad, rfl⟩ | ⟨hv, hok, H6, g6, hs6, hH6, rfl, hg6, hout6⟩
              · clear hv
                go_wp2_with (go_at_call 8; refine (AW.out _ B6.out).mono ?_; rintro e y9 ⟨rfl, hb⟩; have B9 := Lib.hid (B6.out.trans (hb.mono B6.out.size)); clear hb)
                go_ret
                exact ⟨rfl, B9.out⟩
              · have hL : L = false := by
                  obtain ⟨k1, k2⟩ := KQ.out hv
                  rcases hbad with h0 | ⟨H, h0⟩
                  · exact absurd (k1.symm.trans h0) (by decide)
                  · exact ((k2 false H h0).1).symm
                subst hL
                clear hv hbad
                go_wp2_with fail
                go_loopw [20, 21, 143] (fun _ _ cnt wz => ∃ k4 : Nat, k4 ≤ fs.length ∧ cnt = .int .i64 k4 ∧ Below w6.heap.size w6 wz) (fun _ _ i _ => fs.length - (intOf i).toNat)
                case atStart => exact ⟨0, Nat.zero_le _, rfl, Below.refl _ _⟩
                case round =>
                  obtain ⟨wz, rfl⟩ : ∃ x, x = wr := ⟨_, rfl⟩
                  obtain ⟨k4, hk4, rfl, hbw⟩ := hrel
                  have BZ := Lib.hid hbw
                  have BWZ := Lib.hid (B6.out.trans (hbw.mono B6.out.size))
                  clear hbw
                  by_cases hlt : k4 < fs.length
                  · obtain ⟨eC, hb3, hcell, hints⟩ := HC.out k4 (by rw [HLS.out]; exact hlt)
                    have x1 := (BWZ.out.cell (p := ⟨b3, o3 + k4, none⟩) hb3).trans hcell
                    have HI := Lib.hid (hints.small (by have := HX.out k4 hlt; omega))
                    have EC := Lib.hid eC
                    clear hcell hints eC hb3
                    generalize ls.getD k4 [] = s at *
                    obtain rfl := EC.out
                    have z1 : (k4 : Int) < (fs.length : Int) := by omega
                    have z2 : (0 : Int) ≤ (k4 : Int) := by omega
                    have z3 : fs.length ≤ 50 := HN.out
                    go_wp2_with fail
                    go_roundw
                    case rel => exact ⟨k4 + 1, by omega, by go_num, BZ.out⟩
                    case measure => simp [intOf]; omega
                  · obtain rfl : k4 = fs.length := by omega
                    go_wp2_with (go_at_call 8; refine (AW.out _ BWZ.out).mono ?_; rintro e y9 ⟨rfl, hb⟩; have B9 := Lib.hid (BWZ.out.trans (hb.mono BWZ.out.size)); clear hb)
                    go_ret
                    exact ⟨rfl, B9.out⟩
              · have hL : L = true := (((KQ.out hv).2 true H6 hs6).1).symm
                subst hL
                obtain ⟨bs, hal6, hlie6, heq6⟩ := fams_read0 (by have := HN.out; omega) hH6 hout6
                have KJ := Lib.hid (show ∀ i (hi : i < bs.length), (validFB bs[i].lo bs[i].hi bs[i].mn bs[i].mx && decide (bs[i].lo = bs[i].hi)) = true ∧ hasFB bs[i].lo bs[i].hi bs[i].mn bs[i].mx (ls.getD i []) = true from fun i hi => by
                  obtain ⟨e1, e2, e3, e4⟩ := heq6 i hi
                  rw [e1, e2, e3, e4]
                  exact (((KQ.out hv).2 true H6 hs6).2 rfl hH6 i (by omega)))
                have HBS := Lib.hid hlie6
                have HBL := Lib.hid hal6
                clear hv hok hs6 hH6 hg6 hout6 hlie6 heq6 hal6
                go_wp2_with fail
                go_loopw [20, 21, 143] (fun _ _ cnt wz => ∃ k4 : Nat, k4 ≤ fs.length ∧ cnt = .int .i64 k4 ∧ Below w6.heap.size w6 wz) (fun _ _ i _ => fs.length - (intOf i).toNat)
                case atStart => exact ⟨0, Nat.zero_le _, rfl, Below.refl _ _⟩
                case round =>
                  obtain ⟨wz, rfl⟩ : ∃ x, x = wr := ⟨_, rfl⟩
                  obtain ⟨k4, hk4, rfl, hbw⟩ := hrel
                  have BZ := Lib.hid hbw
                  have BWZ := Lib.hid (B6.out.trans (hbw.mono B6.out.size))
                  clear hbw
                  by_cases hlt : k4 < fs.length
                  · obtain ⟨eC, hb3, hcell, hints⟩ := HC.out k4 (by rw [HLS.out]; exact hlt)
                    have x1 := (BWZ.out.cell (p := ⟨b3, o3 + k4, none⟩) hb3).trans hcell
                    have HI := Lib.hid (hints.small (by have := HX.out k4 hlt; omega))
                    have EC := Lib.hid eC
                    clear hcell hints eC hb3
                    have KJK := Lib.hid (KJ.out k4 (by rw [HBL.out]; exact hlt))
                    obtain ⟨bb, ob, eb, hbb, hfb⟩ := HBS.out.2 (by rw [HBL.out]; omega)
                    injection eb with eb
                    injection eb with eb1 eb2 eb3
                    subst eb1 eb2
                    have hlt2 : k4 < bs.length := by rw [HBL.out]; exact hlt
                    have LJ := Lib.hid (fun w1 (h : Below w6.heap.size w6 w1) => (hfb k4 hlt2).over hbb h)
                    clear hfb hbb
                    generalize bs[k4] = f at *
                    clear hlt2
                    generalize ls.getD k4 [] = s at *
                    obtain rfl := EC.out
                    simp only [Nat.zero_add] at LJ
                    obtain ⟨a0, a1, a2, a3, a4, a5⟩ := LJ.out wz BZ.out
                    have FXD := Lib.hid (fun w1 (h : Below wz.heap.size wz w1) => Fixed_p_any f.lo f.hi f.mn f.mx f.A f.B f.c1 f.c2 w1 (a4.over h) (a5.over h))
                    have HPF := Lib.hid (fun w1 (h : Below wz.heap.size wz w1) => Has_fp_any f.lo f.hi f.mn f.mx s f.A f.B (AF k4) f.c1 f.c2 (CF k4) w1 (a4.over h) (a5.over h) (HI.out.over (BWZ.out.trans (h.mono BWZ.out.size))))
                    rw [KJK.out.1] at FXD
                    rw [KJK.out.2] at HPF
                    clear a4 a5 KJK
                    have z1 : (k4 : Int) < (fs.length : Int) := by omega
                    have z2 : (0 : Int) ≤ (k4 : Int) := by omega
                    have z3 : fs.length ≤ 50 := HN.out
                    go_upto_region 42 with (first | (go_at_call 17; refine (FXD.out _ (Below.refl _ _)).mono ?_; rintro e w7 ⟨rfl, hb⟩; have H7 := Lib.hid hb; clear hb FXD a0 a1 a2 a3; obtain ⟨a0, a1, a2, a3, _, _⟩ := LJ.out w7 (BZ.out.trans (H7.out.mono BZ.out.size))) | (go_at_call 19; refine (HPF.out _ H7.out).mono ?_; rintro e w8 ⟨rfl, hb⟩; have H8 := Lib.hid (H7.out.trans (hb.mono H7.out.size)); clear hb HPF a0 a1 a2 a3))
                    go_wp2_with fail
                    go_roundw
                    case rel => exact ⟨k4 + 1, by omega, by go_num, BZ.out.trans (H8.out.mono BZ.out.size)⟩
                    case measure => simp [intOf]; omega
                  · obtain rfl : k4 = fs.length := by omega
                    go_wp2_with (go_at_call 8; refine (AW.out _ BWZ.out).mono ?_; rintro e y9 ⟨rfl, hb⟩; have B9 := Lib.hid (BWZ.out.trans (hb.mono BWZ.out.size)); clear hb)
                    go_ret
                    exact ⟨rfl, B9.out⟩
            | true =>
              cases L with
              | false =>
                go_wp2_with fail
                refine (FXQ.out _ BWQ.out BQ.out).mono ?_
                rintro e w6 ⟨hres, hbl⟩
                have B6 := Lib.hid (BWQ.out.trans (hbl.mono BWQ.out.size))
                clear hbl
                simp only [setFams_length] at hres
                rcases hres with ⟨hv, rfl⟩ | ⟨hv, hbad, rfl⟩ | ⟨hv, hok, H6, g6, hs6, hH6, rfl, hg6, hout6⟩
                · clear hv
                  go_wp2_with (go_at_call 8; refine (AW.out _ B6.out).mono ?_; rintro e y9 ⟨rfl, hb⟩; have B9 := Lib.hid (B6.out.trans (hb.mono B6.out.size)); clear hb)
                  go_ret
                  exact ⟨rfl, B9.out⟩
                · have hL : false = false := by
                    obtain ⟨k1, k2⟩ := KQ.out hv
                    rcases hbad with h0 | ⟨H, h0⟩
                    · exact absurd (k1.symm.trans h0) (by decide)
                    · exact ((k2 false H h0).1).symm
                  clear hL
                  clear hv hbad
                  go_wp2_with fail
                  go_loopw [20, 21, 143] (fun _ _ cnt wz => ∃ k4 : Nat, k4 ≤ fs.length ∧ cnt = .int .i64 k4 ∧ Below w6.heap.size w6 wz) (fun _ _ i _ => fs.length - (intOf i).toNat)
                  case atStart => exact ⟨0, Nat.zero_le _, rfl, Below.refl _ _⟩
                  case round =>
                    obtain ⟨wz, rfl⟩ : ∃ x, x = wr := ⟨_, rfl⟩
                    obtain ⟨k4, hk4, rfl, hbw⟩ := hrel
                    have BZ := Lib.hid hbw
                    have BWZ := Lib.hid (B6.out.trans (hbw.mono B6.out.size))
                    clear hbw
                    by_cases hlt : k4 < fs.length
                    · obtain ⟨eC, hb3, hcell, hints⟩ := HC.out k4 (by rw [HLS.out]; exact hlt)
                      have x1 := (BWZ.out.cell (p := ⟨b3, o3 + k4, none⟩) hb3).trans hcell
                      have HI := Lib.hid (hints.small (by have := HX.out k4 hlt; omega))
                      have EC := Lib.hid eC
                      clear hcell hints eC hb3
                      generalize ls.getD k4 [] = s at *
                      obtain rfl := EC.out
                      have z1 : (k4 : Int) < (fs.length : Int) := by omega
                      have z2 : (0 : Int) ≤ (k4 : Int) := by omega
                      have z3 : fs.length ≤ 50 := HN.out
                      go_wp2_with fail
                      go_roundw
                      case rel => exact ⟨k4 + 1, by omega, by go_num, BZ.out⟩
                      case measure => simp [intOf]; omega
                    · obtain rfl : k4 = fs.length := by omega
                      go_wp2_with (go_at_call 8; refine (AW.out _ BWZ.out).mono ?_; rintro e y9 ⟨rfl, hb⟩; have B9 := Lib.hid (BWZ.out.trans (hb.mono BWZ.out.size)); clear hb)
                      go_ret
                      exact ⟨rfl, B9.out⟩
                · have hL : false = true := (((KQ.out hv).2 true H6 hs6).1).symm
                  cases hL
              | true =>
                go_wp2_with fail
                go_loopw [16, 17, 104] (fun _ _ cnt wz => ∃ k3 : Nat, k3 ≤ fs.length ∧ cnt = .int .i64 k3 ∧ Below wq.heap.size wq wz) (fun _ _ i _ => fs.length - (intOf i).toNat)
                case atStart => exact ⟨0, Nat.zero_le _, rfl, Below.refl _ _⟩
                case round =>
                  obtain ⟨wz, rfl⟩ : ∃ x, x = wr := ⟨_, rfl⟩
                  obtain ⟨k3, hk3, rfl, hbw⟩ := hrel
                  have BRZ := Lib.hid (BQ.out.trans (hbw.mono BQ.out.size))
                  have BZ := Lib.hid hbw
                  have BWZ := Lib.hid (BWQ.out.trans (hbw.mono BWQ.out.size))
                  clear hbw
                  by_cases hlt : k3 < fs.length
                  · obtain ⟨eC, hb3, hcell, hints⟩ := HC.out k3 (by rw [HLS.out]; exact hlt)
                    have x1 := (BWZ.out.cell (p := ⟨b3, o3 + k3, none⟩) hb3).trans hcell
                    have HI := Lib.hid (hints.small (by have := HX.out k3 hlt; omega))
                    have EC := Lib.hid eC
                    clear hcell hints eC hb3
                    have KIK := Lib.hid (KI.out (by first | rfl | trivial) (by first | rfl | trivial) k3 (by rw [HAL.out]; exact hlt))
                    obtain ⟨bb, ob, eb, hbb, hfb⟩ := HAS.out.2 (by rw [HAL.out]; omega)
                    injection eb with eb
                    injection eb with eb1 eb2 eb3
                    subst eb1 eb2
                    have hlt2 : k3 < gs.length := by rw [HAL.out]; exact hlt
                    have LJ := Lib.hid (fun w1 (h : Below w3.heap.size w3 w1) => (hfb k3 hlt2).over hbb h)
                    clear hfb hbb
                    generalize gs[k3] = f at *
                    clear hlt2
                    generalize ls.getD k3 [] = s at *
                    obtain rfl := EC.out
                    simp only [Nat.zero_add] at LJ
                    obtain ⟨a0, a1, a2, a3, a4, a5⟩ := LJ.out wz (B3R.out.trans (BRZ.out.mono B3R.out.size))
                    have HPF := Lib.hid (fun w1 (h : Below wz.heap.size wz w1) => Has_fp_any f.lo f.hi f.mn f.mx s f.A f.B (AF k3) f.c1 f.c2 (CF k3) w1 (a4.over h) (a5.over h) (HI.out.over (BWZ.out.trans (h.mono BWZ.out.size))))
                    rw [KIK.out] at HPF
                    clear a4 a5 KIK
                    have z1 : (k3 : Int) < (fs.length : Int) := by omega
                    have z2 : (0 : Int) ≤ (k3 : Int) := by omega
                    have z3 : fs.length ≤ 50 := HN.out
                    go_wp2_with (go_at_call 19; refine (HPF.out _ (Below.refl _ _)).mono ?_; rintro e w8 ⟨rfl, hb⟩; have H8 := Lib.hid hb; clear hb HPF a0 a1 a2 a3)
                    go_roundw
                    case rel => exact ⟨k3 + 1, by omega, by go_num, BZ.out.trans (H8.out.mono BZ.out.size)⟩
                    case measure => simp [intOf]; omega
                  · obtain rfl : k3 = fs.length := by omega
                    go_wp2_with fail
                    refine (FXQ.out _ BWZ.out BRZ.out).mono ?_
                    rintro e w6 ⟨hres, hbl⟩
                    have B6 := Lib.hid (BWZ.out.trans (hbl.mono BWZ.out.size))
                    clear hbl
                    simp only [setFams_length] at hres
                    rcases hres with ⟨hv, rfl⟩ | ⟨hv, hbad, rfl⟩ | ⟨hv, hok, H6, g6, hs6, hH6, rfl, hg6, hout6⟩
                    · clear hv
                      go_wp2_with (go_at_call 8; refine (AW.out _ B6.out).mono ?_; rintro e y9 ⟨rfl, hb⟩; have B9 := Lib.hid (B6.out.trans (hb.mono B6.out.size)); clear hb)
                      go_ret
                      exact ⟨rfl, B9.out⟩
                    · have hL : true = false := by
                        obtain ⟨k1, k2⟩ := KQ.out hv
                        rcases hbad with h0 | ⟨H, h0⟩
                        · exact absurd (k1.symm.trans h0) (by decide)
                        · exact ((k2 false H h0).1).symm
                      cases hL
                    · have hL : true = true := (((KQ.out hv).2 true H6 hs6).1).symm
                      clear hL
                      obtain ⟨bs, hal6, hlie6, heq6⟩ := fams_read0 (by have := HN.out; omega) hH6 hout6
                      have KJ := Lib.hid (show ∀ i (hi : i < bs.length), (validFB bs[i].lo bs[i].hi bs[i].mn bs[i].mx && decide (bs[i].lo = bs[i].hi)) = true ∧ hasFB bs[i].lo bs[i].hi bs[i].mn bs[i].mx (ls.getD i []) = true from fun i hi => by
                        obtain ⟨e1, e2, e3, e4⟩ := heq6 i hi
                        rw [e1, e2, e3, e4]
                        exact (((KQ.out hv).2 true H6 hs6).2 rfl hH6 i (by omega)))
                      have HBS := Lib.hid hlie6
                      have HBL := Lib.hid hal6
                      clear hv hok hs6 hH6 hg6 hout6 hlie6 heq6 hal6
                      go_wp2_with fail
                      go_loopw [20, 21, 143] (fun _ _ cnt wz => ∃ k4 : Nat, k4 ≤ fs.length ∧ cnt = .int .i64 k4 ∧ Below w6.heap.size w6 wz) (fun _ _ i _ => fs.length - (intOf i).toNat)
                      case atStart => exact ⟨0, Nat.zero_le _, rfl, Below.refl _ _⟩
                      case round =>
                        obtain ⟨wz, rfl⟩ : ∃ x, x = wr := ⟨_, rfl⟩
                        obtain ⟨k4, hk4, rfl, hbw⟩ := hrel
                        have BZ := Lib.hid hbw
                        have BWZ := Lib.hid (B6.out.trans (hbw.mono B6.out.size))
                        clear hbw
                        by_cases hlt : k4 < fs.length
                        · obtain ⟨eC, hb3, hcell, hints⟩ := HC.out k4 (by rw [HLS.out]; exact hlt)
                          have x1 := (BWZ.out.cell (p := ⟨b3, o3 + k4, none⟩) hb3).trans hcell
                          have HI := Lib.hid (hints.small (by have := HX.out k4 hlt; omega))
                          have EC := Lib.hid eC
                          clear hcell hints eC hb3
                          have KJK := Lib.hid (KJ.out k4 (by rw [HBL.out]; exact hlt))
                          obtain ⟨bb, ob, eb, hbb, hfb⟩ := HBS.out.2 (by rw [HBL.out]; omega)
                          injection eb with eb
                          injection eb with eb1 eb2 eb3
                          subst eb1 eb2
                          have hlt2 : k4 < bs.length := by rw [HBL.out]; exact hlt
                          have LJ := Lib.hid (fun w1 (h : Below w6.heap.size w6 w1) => (hfb k4 hlt2).over hbb h)
                          clear hfb hbb
                          generalize bs[k4] = f at *
                          clear hlt2
                          generalize ls.getD k4 [] = s at *
                          obtain rfl := EC.out
                          simp only [Nat.zero_add] at LJ
                          obtain ⟨a0, a1, a2, a3, a4, a5⟩ := LJ.out wz BZ.out
                          have FXD := Lib.hid (fun w1 (h : Below wz.heap.size wz w1) => Fixed_p_any f.lo f.hi f.mn f.mx f.A f.B f.c1 f.c2 w1 (a4.over h) (a5.over h))
                          have HPF := Lib.hid (fun w1 (h : Below wz.heap.size wz w1) => Has_fp_any f.lo f.hi f.mn f.mx s f.A f.B (AF k4) f.c1 f.c2 (CF k4) w1 (a4.over h) (a5.over h) (HI.out.over (BWZ.out.trans (h.mono BWZ.out.size))))
                          rw [KJK.out.1] at FXD
                          rw [KJK.out.2] at HPF
                          clear a4 a5 KJK
                          have z1 : (k4 : Int) < (fs.length : Int) := by omega
                          have z2 : (0 : Int) ≤ (k4 : Int) := by omega
                          have z3 : fs.length ≤ 50 := HN.out
                          go_upto_region 42 with (first | (go_at_call 17; refine (FXD.out _ (Below.refl _ _)).mono ?_; rintro e w7 ⟨rfl, hb⟩; have H7 := Lib.hid hb; clear hb FXD a0 a1 a2 a3; obtain ⟨a0, a1, a2, a3, _, _⟩ := LJ.out w7 (BZ.out.trans (H7.out.mono BZ.out.size))) | (go_at_call 19; refine (HPF.out _ H7.out).mono ?_; rintro e w8 ⟨rfl, hb⟩; have H8 := Lib.hid (H7.out.trans (hb.mono H7.out.size)); clear hb HPF a0 a1 a2 a3))
                          go_wp2_with fail
                          go_roundw
                          case rel => exact ⟨k4 + 1, by omega, by go_num, BZ.out.trans (H8.out.mono BZ.out.size)⟩
                          case measure => simp [intOf]; omega
                        · obtain rfl : k4 = fs.length := by omega
                          go_wp2_with (go_at_call 8; refine (AW.out _ BWZ.out).mono ?_; rintro e y9 ⟨rfl, hb⟩; have B9 := Lib.hid (BWZ.out.trans (hb.mono BWZ.out.size)); clear hb)
                          go_ret
                          exact ⟨rfl, B9.out⟩
end Go.Proofs.YthakhdbakmlooaaDoor
