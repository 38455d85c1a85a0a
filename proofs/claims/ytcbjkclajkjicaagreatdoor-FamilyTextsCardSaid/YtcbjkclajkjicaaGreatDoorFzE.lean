/-
  Normal: the document's.
-/
import Derived.Test.YtcbjkclajkjicaaGreatDoorFzD
namespace Go.Proofs.YtcbjkclajkjicaaGreatDoor
set_option linter.unusedSimpArgs false
open Go Go.RowKit Go.Shelf Go.Ev

set_option maxRecDepth 100000 in
set_option maxHeartbeats 8000000 in
theorem Normal_r_any (lo hi : List Int) (mn mx : Int) (A B : Option Addr) (c1 c2 : Nat) (w : World) (ha : Ints w A lo) (hb : Ints w B hi) :
    Calls Tryz.prog 16 #[.agg #[.slice A lo.length c1, .slice B hi.length c2, .int .i64 mn, .int .i64 mx]] w (MeetRes (validFB lo hi mn mx) (setN lo) (setN hi) mn mx w) := by
  have VP := Lib.hid (fun w1 (h : Below w.heap.size w w1) => FValid_r_any lo hi mn mx A B c1 c2 w1 (ha.over h) (hb.over h))
  have VL := Lib.hid (show validFB lo hi mn mx = true → lo.all inR = true ∧ hi.all inR = true from fun h => by
    unfold validFB elemsB at h
    simp only [Bool.and_eq_true] at h
    exact ⟨h.1.1.1.2, h.1.1.2.2⟩)
  have BO := Lib.hid (fun (h1 : lo.all inR = true) (h2 : hi.all inR = true) w1 (h : Below w.heap.size w w1) => rin_any lo hi mn mx A B c1 c2 w1 (ha.over h) (hb.over h) h1 h2)
  have LT := Lib.hid (show ∀ l : List Int, l.all inR = true → setN l < 18446744073709551616 from fun l h => setN_lt h)
  have hl1 := ha.1
  have hl2 := hb.1
  clear ha hb
  generalize lo.length = n1 at *
  generalize hi.length = n2 at *
  have BA := Lib.hid (show Below w.heap.size w ((w.alloc (.cells #[.slice A n1 c1, .slice B n2 c2, .int .i64 mn, .int .i64 mx] 24)).alloc (.cells #[.slice none 0 0, .slice none 0 0, .int .i64 0, .int .i64 0] 24)) from ((Below.refl _ w).alloc (Nat.le_refl _) _).alloc (by simp) _)
  have BF := Lib.hid (show famCells ((w.alloc (.cells #[.slice A n1 c1, .slice B n2 c2, .int .i64 mn, .int .i64 mx] 24)).alloc (.cells #[.slice none 0 0, .slice none 0 0, .int .i64 0, .int .i64 0] 24)) (w.heap.size + 1) from heap_alloc2_new _ _ _)
  have BX := Lib.hid (show ∀ wx, Below (w.heap.size + 2) ((w.alloc (.cells #[.slice A n1 c1, .slice B n2 c2, .int .i64 mn, .int .i64 mx] 24)).alloc (.cells #[.slice none 0 0, .slice none 0 0, .int .i64 0, .int .i64 0] 24)) wx → wx.cell? ⟨w.heap.size, 0, none⟩ = some (.slice A n1 c1) ∧ wx.cell? ⟨w.heap.size, 1, none⟩ = some (.slice B n2 c2) ∧ wx.cell? ⟨w.heap.size, 2, none⟩ = some (.int .i64 mn) ∧ wx.cell? ⟨w.heap.size, 3, none⟩ = some (.int .i64 mx) from fun wx h => by
    have hh := (h.block w.heap.size (by omega)).trans (heap_alloc2_old w (.cells #[.slice A n1 c1, .slice B n2 c2, .int .i64 mn, .int .i64 mx] 24) _)
    refine ⟨?_, ?_, ?_, ?_⟩ <;> (simp only [World.cell?, hh]; rfl))
  have SZ := Lib.hid (show ∀ y : World, famCells y (w.heap.size + 1) → w.heap.size + 2 ≤ y.heap.size from fun y h => by unfold famCells at h; exact (Array.getElem?_eq_some_iff.1 h).1)
  cases hV : validFB lo hi mn mx with
  | false =>
    rw [hV] at VP
    clear BO VL hV SZ LT
    go_enter Tryz.func16, Tryz.ntmps16
    go_wp2_with ((go_at_call 23; refine (VP.out _ BA.out).mono ?_; rintro e y1 ⟨rfl, hb⟩; have H1 := Lib.hid (show Below (w.heap.size + 2) _ _ from hb.mono (by simp)); have B1 := Lib.hid (BA.out.trans (hb.mono BA.out.size)); have F1 := Lib.hid (show famCells y1 (w.heap.size + 1) from (H1.out.block _ (by omega)).trans BF.out); obtain ⟨q0, q1, q2, q3, fz⟩ := famCells_facts F1.out; obtain ⟨x0, x1, x2, x3⟩ := BX.out _ H1.out; clear hb VP))
    clear q0 q1 q2 q3 fz
    have pz := fam_put (show y1.heap[w.heap.size + 1]? = some (.cells #[.slice none 0 0, .slice none 0 0, .int .i64 0, .int .i64 0] 24 (0, 0)) from F1.out) (.slice none 0 0) (.slice none 0 0) (.int .i64 0) (.int .i64 0)
    refine bodyPost_ret (v := .tuple #[.agg #[.slice none 0 0, .slice none 0 0, .int .i64 0, .int .i64 0], .int .i64 2]) (Eq.trans (results_row_tmp (p := 2) (u := 3) rfl _ _ (w.heap.size + 1) 24 _ (0, 0) _ rfl pz.1 Tryz.underlying24 rfl (by kernel_rfl)) rfl) rfl ?_
    exact ⟨by rw [if_neg Bool.false_ne_true], B1.out.trans (pz.2.1.mono (by omega))⟩
  | true =>
    obtain ⟨hr1, hr2⟩ := VL.out hV
    rw [hV] at VP
    have BO := Lib.hid (BO.out hr1 hr2)
    have hL := LT.out _ hr1
    have hH := LT.out _ hr2
    clear VL hV hr1 hr2 LT
    generalize setN lo = L at *
    generalize setN hi = H at *
    have PN := Lib.hid (fun w1 => rnormal_any L H mn mx w1 hL hH)
    have PO := Lib.hid (fun w1 => rout_any (nlo L H mn) (nhi L H mn mx) (nmn L mn) (nmx H mx) w1 (nlo_lt hL hH) (nhi_lt hL hH))
    unfold RNorm at PN
    clear hL hH
    cases hK : okN L H mn mx with
    | false =>
      rw [hK] at PN
      simp only [Bool.false_eq_true, if_false] at PN
      clear PO
      go_enter Tryz.func16, Tryz.ntmps16
      go_upto_region 4 with (first | (go_at_call 23; refine (VP.out _ BA.out).mono ?_; rintro e y1 ⟨rfl, hb⟩; have H1 := Lib.hid (show Below (w.heap.size + 2) _ _ from hb.mono (by simp)); have B1 := Lib.hid (BA.out.trans (hb.mono BA.out.size)); have F1 := Lib.hid (show famCells y1 (w.heap.size + 1) from (H1.out.block _ (by omega)).trans BF.out); obtain ⟨q0, q1, q2, q3, fz⟩ := famCells_facts F1.out; obtain ⟨x0, x1, x2, x3⟩ := BX.out _ H1.out; clear hb VP) | (go_at_call 34; clear q0 q1 q2 q3 fz x0 x1 x2 x3; refine (BO.out _ B1.out).mono ?_; rintro e y2 ⟨rfl, hb⟩; have B2 := Lib.hid (B1.out.trans (hb.mono B1.out.size)); have H2 := Lib.hid (H1.out.trans (hb.mono (SZ.out _ F1.out))); have F2 := Lib.hid (show famCells y2 (w.heap.size + 1) from (H2.out.block _ (by omega)).trans BF.out); clear hb BO) | (go_at_call 33; refine (PN.out _).mono ?_; rintro e y3 ⟨rfl, hb⟩; have B3 := Lib.hid (B2.out.trans (hb.mono B2.out.size)); have H3 := Lib.hid (H2.out.trans (hb.mono (SZ.out _ F2.out))); have F3 := Lib.hid (show famCells y3 (w.heap.size + 1) from (H3.out.block _ (by omega)).trans BF.out); clear hb PN))
      have v0 := heap_alloc_new y3 (.cells #[.int .u64 0, .int .u64 0, .int .i64 0, .int .i64 0, .bool true] 65)
      have bl := (Below.refl y3.heap.size y3).alloc (Nat.le_refl _) (.cells #[.int .u64 0, .int .u64 0, .int .i64 0, .int .i64 0, .bool true] 65)
      have F9 := Lib.hid (show famCells (y3.alloc (.cells #[.int .u64 0, .int .u64 0, .int .i64 0, .int .i64 0, .bool true] 65)) (w.heap.size + 1) from (bl.block _ (by have := SZ.out _ F3.out; omega)).trans F3.out)
      have B9 := Lib.hid (B3.out.trans (bl.mono B3.out.size))
      have H9 := Lib.hid (H3.out.trans (bl.mono (SZ.out _ F3.out)))
      generalize y3.alloc (.cells #[.int .u64 0, .int .u64 0, .int .i64 0, .int .i64 0, .bool true] 65) = y4 at *
      clear bl
      have c4 : y4.cell? ⟨y3.heap.size, 4, none⟩ = some (.bool true) := by simp only [World.cell?, v0]; rfl
      clear v0
      generalize y3.heap.size = g at *
      obtain ⟨q0, q1, q2, q3, fz⟩ := famCells_facts F9.out
      go_wp2_with fail
      clear q0 q1 q2 q3 fz
      have pz := fam_put (show y4.heap[w.heap.size + 1]? = some (.cells #[.slice none 0 0, .slice none 0 0, .int .i64 0, .int .i64 0] 24 (0, 0)) from F9.out) (.slice none 0 0) (.slice none 0 0) (.int .i64 0) (.int .i64 0)
      refine bodyPost_ret (v := .tuple #[.agg #[.slice none 0 0, .slice none 0 0, .int .i64 0, .int .i64 0], .int .i64 60]) (Eq.trans (results_row_tmp (p := 2) (u := 3) rfl _ _ (w.heap.size + 1) 24 _ (0, 0) _ rfl pz.1 Tryz.underlying24 rfl (by kernel_rfl)) rfl) rfl ?_
      exact ⟨by rw [if_pos rfl]; unfold NormRes; rw [hK, if_neg Bool.false_ne_true], B9.out.trans (pz.2.1.mono (by omega))⟩
    | true =>
      rw [hK] at PN
      simp only [if_true] at PN
      go_enter Tryz.func16, Tryz.ntmps16
      go_upto_region 4 with (first | (go_at_call 23; refine (VP.out _ BA.out).mono ?_; rintro e y1 ⟨rfl, hb⟩; have H1 := Lib.hid (show Below (w.heap.size + 2) _ _ from hb.mono (by simp)); have B1 := Lib.hid (BA.out.trans (hb.mono BA.out.size)); have F1 := Lib.hid (show famCells y1 (w.heap.size + 1) from (H1.out.block _ (by omega)).trans BF.out); obtain ⟨q0, q1, q2, q3, fz⟩ := famCells_facts F1.out; obtain ⟨x0, x1, x2, x3⟩ := BX.out _ H1.out; clear hb VP) | (go_at_call 34; clear q0 q1 q2 q3 fz x0 x1 x2 x3; refine (BO.out _ B1.out).mono ?_; rintro e y2 ⟨rfl, hb⟩; have B2 := Lib.hid (B1.out.trans (hb.mono B1.out.size)); have H2 := Lib.hid (H1.out.trans (hb.mono (SZ.out _ F1.out))); have F2 := Lib.hid (show famCells y2 (w.heap.size + 1) from (H2.out.block _ (by omega)).trans BF.out); clear hb BO) | (go_at_call 33; refine (PN.out _).mono ?_; rintro e y3 ⟨rfl, hb⟩; have B3 := Lib.hid (B2.out.trans (hb.mono B2.out.size)); have H3 := Lib.hid (H2.out.trans (hb.mono (SZ.out _ F2.out))); have F3 := Lib.hid (show famCells y3 (w.heap.size + 1) from (H3.out.block _ (by omega)).trans BF.out); clear hb PN))
      have v0 := heap_alloc_new y3 (.cells #[.int .u64 (nlo L H mn : Nat), .int .u64 (nhi L H mn mx : Nat), .int .i64 (nmn L mn), .int .i64 (nmx H mx), .bool false] 65)
      have bl := (Below.refl y3.heap.size y3).alloc (Nat.le_refl _) (.cells #[.int .u64 (nlo L H mn : Nat), .int .u64 (nhi L H mn mx : Nat), .int .i64 (nmn L mn), .int .i64 (nmx H mx), .bool false] 65)
      have F9 := Lib.hid (show famCells (y3.alloc (.cells #[.int .u64 (nlo L H mn : Nat), .int .u64 (nhi L H mn mx : Nat), .int .i64 (nmn L mn), .int .i64 (nmx H mx), .bool false] 65)) (w.heap.size + 1) from (bl.block _ (by have := SZ.out _ F3.out; omega)).trans F3.out)
      have B9 := Lib.hid (B3.out.trans (bl.mono B3.out.size))
      have H9 := Lib.hid (H3.out.trans (bl.mono (SZ.out _ F3.out)))
      generalize y3.alloc (.cells #[.int .u64 (nlo L H mn : Nat), .int .u64 (nhi L H mn mx : Nat), .int .i64 (nmn L mn), .int .i64 (nmx H mx), .bool false] 65) = y4 at *
      clear bl
      have c0 : y4.cell? ⟨y3.heap.size, 0, none⟩ = some (.int .u64 (nlo L H mn : Nat)) := by simp only [World.cell?, v0]; rfl
      have c1 : y4.cell? ⟨y3.heap.size, 1, none⟩ = some (.int .u64 (nhi L H mn mx : Nat)) := by simp only [World.cell?, v0]; rfl
      have c2 : y4.cell? ⟨y3.heap.size, 2, none⟩ = some (.int .i64 (nmn L mn)) := by simp only [World.cell?, v0]; rfl
      have c3 : y4.cell? ⟨y3.heap.size, 3, none⟩ = some (.int .i64 (nmx H mx)) := by simp only [World.cell?, v0]; rfl
      have c4 : y4.cell? ⟨y3.heap.size, 4, none⟩ = some (.bool false) := by simp only [World.cell?, v0]; rfl
      clear v0
      generalize y3.heap.size = g at *
      go_wp2_with ((go_at_call 35; refine (PO.out _).mono ?_; rintro e y5 ⟨⟨v, rfl, fo⟩, hb⟩; obtain ⟨v1, v2, rfl, r1, r2, ap⟩ := fo; obtain ⟨G1, k1, rfl⟩ := r1.1; obtain ⟨G2, k2, rfl⟩ := r2.1; have R1 := Lib.hid r1; have R2 := Lib.hid r2; have AP := Lib.hid ap; have B5 := Lib.hid (B9.out.trans (hb.mono B9.out.size)); have F5 := Lib.hid (show famCells y5 (w.heap.size + 1) from (hb.block _ (by have := SZ.out _ F9.out; omega)).trans F9.out); have h95 : w.heap.size + 2 ≤ y4.heap.size := SZ.out _ F9.out; obtain ⟨q0, q1, q2, q3, fz⟩ := famCells_facts F5.out; clear r1 r2 ap hb PO))
      clear q0 q1 q2 q3 fz
      have pz := fam_put (show y5.heap[w.heap.size + 1]? = some (.cells #[.slice none 0 0, .slice none 0 0, .int .i64 0, .int .i64 0] 24 (0, 0)) from F5.out) (.slice G1 (bitsOf 64 0 (nlo L H mn)).length k1) (.slice G2 (bitsOf 64 0 (nhi L H mn mx)).length k2) (.int .i64 (nmn L mn)) (.int .i64 (nmx H mx))
      refine bodyPost_ret (v := .tuple #[.agg #[.slice G1 (bitsOf 64 0 (nlo L H mn)).length k1, .slice G2 (bitsOf 64 0 (nhi L H mn mx)).length k2, .int .i64 (nmn L mn), .int .i64 (nmx H mx)], .int .i64 0]) (Eq.trans (results_row_tmp (p := 2) (u := 3) rfl _ _ (w.heap.size + 1) 24 _ (0, 0) _ rfl pz.1 Tryz.underlying24 rfl (by kernel_rfl)) rfl) rfl ?_
      refine ⟨?_, B5.out.trans (pz.2.1.mono (by omega))⟩
      rw [if_pos rfl]; unfold NormRes; rw [if_pos hK]
      refine ⟨_, rfl, _, _, rfl, R1.out.past (fun b hb => pz.2.2 b ?_) (by omega), R2.out.past (fun b hb => pz.2.2 b ?_) (by omega), AP.out⟩
      · have := (R1.out.lt hb).1; omega
      · have := (R2.out.lt hb).1; omega
end Go.Proofs.YtcbjkclajkjicaaGreatDoor
