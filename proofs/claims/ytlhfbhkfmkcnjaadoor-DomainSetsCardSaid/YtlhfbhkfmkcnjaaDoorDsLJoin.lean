/-
  Join of two domains: the program's.
-/
import Derived.Test.YtlhfbhkfmkcnjaaDoorDsK
namespace Go.Proofs.YtlhfbhkfmkcnjaaDoor
open Go Go.RowKit Go.Ev

theorem wv16Join (x0 x1 x2 x3 x4 x5 x6 x7 x8 x9 x10 x11 x12 x13 x14 x15 : Nat) : wv [x0, x1, x2, x3, x4, x5, x6, x7, x8, x9, x10, x11, x12, x13, x14, x15] = #[.int .u64 (x0 : Nat), .int .u64 (x1 : Nat), .int .u64 (x2 : Nat), .int .u64 (x3 : Nat), .int .u64 (x4 : Nat), .int .u64 (x5 : Nat), .int .u64 (x6 : Nat), .int .u64 (x7 : Nat), .int .u64 (x8 : Nat), .int .u64 (x9 : Nat), .int .u64 (x10 : Nat), .int .u64 (x11 : Nat), .int .u64 (x12 : Nat), .int .u64 (x13 : Nat), .int .u64 (x14 : Nat), .int .u64 (x15 : Nat)] := rfl
attribute [local go_sem] wv16Join
set_option maxHeartbeats 8000000 in
theorem combineJoin_any (a b : List (Int × Int)) (A B : Option Addr) (c1 c2 : Nat) (w : World) (ha : Pairs w A a) (hb : Pairs w B b) (hT : TabIn w) :
    Calls Tryd.prog 45 #[.slice A a.length c1, .slice B b.length c2, .func (.func 48) #[] #[]] w fun e w' =>
      Below w.heap.size w w' ∧ (if (vd 0 a && vd 0 b) = true then ∃ v, e = .returned (.tuple #[v, .int .i64 0]) ∧ w'.ownsRow w.heap.size 60 2 v (addTo (combV (fun p q => p || q) a b)).length (pairCells (addTo (combV (fun p q => p || q) a b)).reverse) ∧ (v = .slice none 0 0 ↔ addTo (combV (fun p q => p || q) a b) = [])
        else e = .returned (.tuple #[.slice none 0 0, .int .i64 2])) := by
  have VA := Lib.hid (Valid_p_any a A c1 w ha)
  have VB := Lib.hid (fun w1 (h : Below w.heap.size w w1) => Valid_p_any b B c2 w1 (hb.over h))
  cases hva : vd 0 a with
  | false =>
    rw [hva] at VA
    simp only [Bool.false_and, Bool.false_eq_true, if_false]
    go_enter Tryd.func45, Tryd.ntmps45
    go_wp2_with (go_at_call 16; refine VA.out.mono ?_; rintro e w1 ⟨rfl, h⟩; have HB1 := Lib.hid h; clear h)
    exact bodyPost_ret (v := .tuple #[.slice none 0 0, .int .i64 2]) (by simp [results, Tryd.results45, go_sem]) rfl ⟨HB1.out, rfl⟩
  | true =>
    rw [hva] at VA
    cases hvb : vd 0 b with
    | false =>
      rw [hvb] at VB
      simp only [Bool.true_and, Bool.false_eq_true, if_false]
      go_enter Tryd.func45, Tryd.ntmps45
      go_wp2_with (first | (go_at_call 16; refine VA.out.mono ?_; rintro e w1 ⟨rfl, h⟩; have HB1 := Lib.hid h; clear h VA) | (go_at_call 16; refine (VB.out _ HB1.out).mono ?_; rintro e w2 ⟨rfl, h⟩; have HB2 := Lib.hid (HB1.out.trans (h.mono HB1.out.size)); clear h))
      exact bodyPost_ret (v := .tuple #[.slice none 0 0, .int .i64 2]) (by simp [results, Tryd.results45, go_sem]) rfl ⟨HB2.out, rfl⟩
    | true =>
      rw [hvb] at VB
      simp only [Bool.and_self, if_true]
      have SA := Lib.hid (fun w1 (h : Below w.heap.size w w1) => setOf_any a A c1 w1 (ha.over h) hva)
      have SB := Lib.hid (fun w1 (h : Below w.heap.size w w1) => setOf_any b B c2 w1 (hb.over h) hvb)
      have HVA := Lib.hid hva
      have HVB := Lib.hid hvb
      have HT := Lib.hid hT
      clear hva hvb hT ha hb
      go_enter Tryd.func45, Tryd.ntmps45
      go_wp2_with (first | (go_at_call 16; refine VA.out.mono ?_; rintro e w1 ⟨rfl, h⟩; have HB1 := Lib.hid h; clear h VA) | (go_at_call 16; refine (VB.out _ HB1.out).mono ?_; rintro e w2 ⟨rfl, h⟩; have HB2 := Lib.hid (HB1.out.trans (h.mono HB1.out.size)); clear h VB) | (go_at_call 53; refine (SA.out _ HB2.out).mono ?_; rintro e w3 ⟨us, rfl, l1, l2, l3, h⟩; have HB3 := Lib.hid (HB2.out.trans (h.mono HB2.out.size)); have HU := Lib.hid l2; have HU3 := Lib.hid l3; obtain ⟨x0, x1, x2, x3, x4, x5, x6, x7, x8, x9, x10, x11, x12, x13, x14, x15, rfl⟩ := sixteen l1; clear h SA l1 l2 l3) | (go_at_call 53; refine (SB.out _ HB3.out).mono ?_; rintro e w4 ⟨ts, rfl, l1, l2, l3, h⟩; have HB4 := Lib.hid (HB3.out.trans (h.mono HB3.out.size)); have HV := Lib.hid l2; have HV3 := Lib.hid l3; obtain ⟨y0, y1, y2, y3, y4, y5, y6, y7, y8, y9, y10, y11, y12, y13, y14, y15, rfl⟩ := sixteen l1; clear h SB l1 l2 l3))
      obtain ⟨us, hus⟩ : ∃ us : List Nat, us = [x0, x1, x2, x3, x4, x5, x6, x7, x8, x9, x10, x11, x12, x13, x14, x15] := ⟨_, rfl⟩
      obtain ⟨ts, hts⟩ : ∃ ts : List Nat, ts = [y0, y1, y2, y3, y4, y5, y6, y7, y8, y9, y10, y11, y12, y13, y14, y15] := ⟨_, rfl⟩
      rw [← hus] at HU HU3
      rw [← hts] at HV HV3
      have lu : us.length = 16 := by rw [hus]; rfl
      have lt : ts.length = 16 := by rw [hts]; rfl
      have EU := Lib.hid hus
      have ET := Lib.hid hts
      clear hus hts
      have hs4 := HB4.out.size
      go_loopw [10, 23] (fun _ i wr => ∃ (j : Nat) (ws : List Nat), j ≤ 16 ∧ i = .int .i64 j ∧ ws.length = 16 ∧ (∀ x ∈ ws, x < 18446744073709551616) ∧ (∀ i, i < j → WordOk (fun p q => p || q) (us.getD i 0) (ts.getD i 0) (ws.getD i 0)) ∧ (∀ i, j ≤ i → ws.getD i 0 = us.getD i 0) ∧ wr.heap[w4.heap.size]? = some (.cells (wv ws) 66 (0, 0)) ∧ wr.heap[w4.heap.size + 1]? = some (.cells (wv ts) 66 (0, 0)) ∧ Below w.heap.size w wr) (fun _ i _ => 16 - (intOf i).toNat)
      case atStart =>
        refine ⟨0, us, by omega, rfl, lu, HU.out, fun i hi => absurd hi (Nat.not_lt_zero _), fun i _ => rfl, ?_, ?_, (HB4.out.alloc hs4 _).alloc (by simp; omega) _⟩
        · rw [EU.out]; exact alloc_old (alloc_new _ _)
        · rw [ET.out]
          have := alloc_new (w4.alloc (.cells (wv [x0, x1, x2, x3, x4, x5, x6, x7, x8, x9, x10, x11, x12, x13, x14, x15]) 66 (0, 0))) (.cells (wv [y0, y1, y2, y3, y4, y5, y6, y7, y8, y9, y10, y11, y12, y13, y14, y15]) 66 (0, 0))
          rw [World.size_alloc] at this
          exact this
      case round =>
        obtain ⟨j, ws, hj, rfl, h1, h2, h3, h4, hs, ht, hbw⟩ := hrel
        have hsl := lt_heap hs
        by_cases hlt : j < 16
        · have hj1 : j < ws.length := by omega
          have hj2 : j < ts.length := by omega
          have hj3 : j < us.length := by omega
          have d0 : wr.cell? ⟨w4.heap.size, j, none⟩ = some (.int .u64 (ws[j] : Nat)) := by
            have := wv_get hj1
            simp [World.cell?, hs, this]
          have d1 : wr.cell? ⟨w4.heap.size + 1, j, none⟩ = some (.int .u64 (ts[j] : Nat)) := by
            have := wv_get hj2
            simp [World.cell?, ht, this]
          have f0 : wr.frozen? ⟨w4.heap.size, j, none⟩ = false := by simp [World.frozen?, hs]
          obtain ⟨x, hx⟩ : ∃ x, ws[j] = x := ⟨_, rfl⟩
          obtain ⟨y, hy⟩ : ∃ y, ts[j] = y := ⟨_, rfl⟩
          have hxl : x < 18446744073709551616 := by rw [← hx]; exact h2 _ (List.getElem_mem _)
          have hyl : y < 18446744073709551616 := by rw [← hy]; exact HV.out _ (List.getElem_mem _)
          rw [hx] at d0
          rw [hy] at d1
          have hux : us.getD j 0 = x := by rw [← h4 j (Nat.le_refl _), ← hx, List.getD_eq_getElem?_getD, List.getElem?_eq_getElem hj1]; rfl
          have hty : ts.getD j 0 = y := by rw [← hy, List.getD_eq_getElem?_getD, List.getElem?_eq_getElem hj2]; rfl
          have HH := Lib.hid (And.intro h1 (And.intro h2 (And.intro h3 (And.intro h4 (And.intro hs (And.intro ht (And.intro hbw (And.intro hux hty))))))))
          have MC := Lib.hid (fun wx => join1_any x y wx hxl hyl)
          have z1 : (j : Int) < 16 := by omega
          have z2 : (0 : Int) ≤ (j : Int) := by omega
          clear h1 h2 h3 h4 hs ht hbw hux hty hx hy
          generalize wr = W2 at *
          go_wp2_with fail
          go_region_with (go_at_call 48; refine (MC.out _).mono ?_; rintro e wy ⟨m, rfl, hm, rfl⟩)
          all_goals
            (have HM := Lib.hid hm
             clear hm
             go_wp2_with fail
             go_roundw
             case rel =>
               obtain ⟨h1, h2, h3, h4, hs, ht, hbw, hux, hty⟩ := HH.out
               have n1 : w4.heap.size + 1 ≠ w4.heap.size := by omega
               refine ⟨j + 1, ws.set j m, by omega, by go_num, by rw [List.length_set]; exact h1, set_lt h2 HM.out.1, fun i hi => ?_, fun i hi => ?_, ?_, ?_, ?_⟩
               · by_cases e : i = j
                 · subst e
                   rw [hux, hty, List.getD_eq_getElem?_getD, List.getElem?_set_self hj1]
                   exact HM.out
                 · rw [getD_set_ne (by omega)]
                   exact h3 i (by omega)
               · rw [getD_set_ne (by omega)]
                 exact h4 i (by omega)
               · have h5 := heap_setCell_same _ w4.heap.size j _ _ (.int .u64 ((m : Nat) : Int)) hs
                 rw [wv_set] at h5
                 first | exact h5 | (exact (World.drew_heap _ ▸ h5))
               · exact (Below.heap_setCell _ _ _ _ n1).trans ht
               · first | exact (hbw.setCell (p := ⟨w4.heap.size, j, none⟩) hs4 _) | exact (hbw.drew.setCell (p := ⟨w4.heap.size, j, none⟩) hs4 _) | exact ((below_drewN hbw _).setCell (p := ⟨w4.heap.size, j, none⟩) hs4 _)
             case measure => simp [intOf]; omega)
        · obtain rfl : j = 16 := by omega
          have cb := comb_all (f := fun p q => p || q) rfl HVA.out HVB.out h1 lu lt h2 (fun j hj => by
            have := h3 j hj
            simpa only [List.getD_eq_getElem?_getD, List.getElem?_eq_getElem (show j < us.length by omega), List.getElem?_eq_getElem (show j < ts.length by omega), List.getElem?_eq_getElem (show j < ws.length by omega), Option.getD_some] using this) HU3.out HV3.out
          have RG := Lib.hid (callsIn_wide.1 (ranges_in 4 (Nat.le_refl _) w4.heap.size 0 ws wr (by omega) ⟨h1, h2, fun j hj => by
            have := wv_get hj
            simp [World.cell?, hs, this]⟩ (HT.out.below hbw HT.out.lt)))
          rw [cb] at RG
          have HBW := Lib.hid hbw
          clear hbw h1 h2 h3 h4 hs ht cb
          go_wp2_with (go_at_call 51; refine RG.out.mono ?_; rintro e wz ⟨v, rfl, ho, hn, hb⟩; have HO := Lib.hid ho; have HN := Lib.hid hn; have HZ := Lib.hid (HBW.out.trans (hb.mono HBW.out.size)); clear ho hn hb)
          exact bodyPost_ret (v := .tuple #[v, .int .i64 0]) (by simp [results, Tryd.results45, go_sem]) rfl ⟨HZ.out, v, rfl, ownsRow_lower HBW.out.size HO.out, HN.out⟩
end Go.Proofs.YtlhfbhkfmkcnjaaDoor
