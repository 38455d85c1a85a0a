/-
  Reading a family's text: the document's Parse, over its Text.
-/
import Derived.Test.YtcbjkclajkjicaaGreatDoorTaB
namespace Go.Proofs.YtcbjkclajkjicaaGreatDoor
set_option linter.unusedSimpArgs false
set_option linter.unusedVariables false
open Go Go.RowKit Go.Lib Go.Ev

/-- what Parse answers: what was read, if its text is the text -/
def ParseRes (s : List UInt8) (T : ByteArray × Int) (w : World) (e : Ending) (w' : World) : Prop :=
  (if T.2 = 0 ∧ T.1 = st s then ∃ A ca B cb, e = .returned (.tuple #[.agg #[.slice A (readLo s).length ca, .slice B (readHi s).length cb, .int .i64 (readMn s), .int .i64 (readMx s)], .int .i64 0]) ∧ Ints w' A (readLo s) ∧ Ints w' B (readHi s)
   else e = .returned (.tuple #[.agg #[.slice none 0 0, .slice none 0 0, .int .i64 0, .int .i64 0], .int .i64 3])) ∧ Below w.heap.size w w'
set_option maxRecDepth 100000 in
set_option maxHeartbeats 16000000 in
theorem ParseD_any (s : List UInt8) (h1 : s.length ≤ 1000000) (TT : List Int → List Int → Int → Int → ByteArray × Int) (w : World)
    (TX : ∀ lo hi mn mx A B c1 c2 w1, Ints w1 A lo → Ints w1 B hi → Calls Tryz.prog 7 #[.agg #[.slice A lo.length c1, .slice B hi.length c2, .int .i64 mn, .int .i64 mx]] w1 fun e w' => e = .returned (.tuple #[.string (TT lo hi mn mx).1, .int .i64 (TT lo hi mn mx).2]) ∧ Below w1.heap.size w1 w') :
    Calls Tryz.prog 9 #[.string (st s)] w (ParseRes s (TT (readLo s) (readHi s) (readMn s) (readMx s)) w) := by
  have TXH := Lib.hid TX
  have TK := Lib.hid (fun l q (a : l.length ≤ 1000000) (b : q.length ≤ 1000) w1 => take_any l q a b w1)
  have L := Lib.hid (rd_lengths s fun q _ => partsT_length q)
  have L0 := Lib.hid (show (partsT s).length ≤ 1000000 from Nat.le_trans (partsT_length s) h1)
  have L1 := Lib.hid (show (rd1 s).length ≤ 1000000 from Nat.le_trans L.out.1 h1)
  have L1' := Lib.hid (show (partsT (rd1 s)).length ≤ 1000000 from Nat.le_trans (partsT_length _) L1.out)
  have L2 := Lib.hid (show (rd2 s).length ≤ 1000000 from Nat.le_trans L.out.2.1 h1)
  have L2' := Lib.hid (show (rdN 3 (rd2 s) 0).2.length ≤ 1000000 from Nat.le_trans (rdN3 _).1 L2.out)
  have L3 := Lib.hid (show (rd3 s).length ≤ 1000000 from Nat.le_trans L.out.2.2 h1)
  have P1 := Lib.hid (fun w1 => parts_any s h1 w1)
  have P2 := Lib.hid (fun w1 => parts_any (rd1 s) L1.out w1)
  have N1 := Lib.hid (fun w1 => number_any (rd2 s) L2.out w1)
  have N2 := Lib.hid (fun w1 => number_any (rd3 s) L3.out w1)
  have T1 := Lib.hid (fun w1 => take_any (partsT s) dots L0.out (by decide) w1)
  have T2 := Lib.hid (fun w1 => take_any (partsT (rd1 s)) hash L1'.out (by decide) w1)
  have T3 := Lib.hid (fun w1 => take_any (rdN 3 (rd2 s) 0).2 dots L2'.out (by decide) w1)
  rw [show takeT (partsT s) dots = rd1 s from rfl] at T1
  rw [show takeT (partsT (rd1 s)) hash = rd2 s from rfl] at T2
  rw [show takeT (rdN 3 (rd2 s) 0).2 dots = rd3 s from rfl] at T3
  rw [show partsL s = readLo s from rfl] at P1
  rw [show partsL (rd1 s) = readHi s from rfl] at P2
  rw [show (rdN 3 (rd2 s) 0).1 = readMn s from rfl] at N1
  rw [show (rdN 3 (rd3 s) 0).1 = readMx s from rfl] at N2
  clear TX h1 L L0 L1 L1' L2 L2' L3 TK
  obtain ⟨lo, hlo⟩ : ∃ x, readLo s = x := ⟨_, rfl⟩
  obtain ⟨hi, hhi⟩ : ∃ x, readHi s = x := ⟨_, rfl⟩
  obtain ⟨mn, hmn⟩ : ∃ x, readMn s = x := ⟨_, rfl⟩
  obtain ⟨mx, hmx⟩ : ∃ x, readMx s = x := ⟨_, rfl⟩
  rw [hlo] at P1 ⊢
  rw [hhi] at P2 ⊢
  rw [hmn] at N1 ⊢
  rw [hmx] at N2 ⊢
  have EQS := Lib.hid (And.intro hlo (And.intro hhi (And.intro hmn hmx)))
  clear hlo hhi hmn hmx
  have TA := Lib.hid (fun A B c1 c2 w1 (i1 : Ints w1 A lo) (i2 : Ints w1 B hi) => TXH.out lo hi mn mx A B c1 c2 w1 i1 i2)
  obtain ⟨T, hT⟩ : ∃ T, TT lo hi mn mx = T := ⟨_, rfl⟩
  rw [hT] at TA ⊢
  clear hT TXH
  obtain ⟨T0, TE⟩ := T
  go_enter Tryz.func9, Tryz.ntmps9
  go_upto_region 3 with fail
  have F2 := Lib.hid (show F4 ((w.alloc (.cells #[.slice none 0 0, .slice none 0 0, .int .i64 0, .int .i64 0] 24)).alloc (.cells #[.slice none 0 0, .slice none 0 0, .int .i64 0, .int .i64 0] 24)) w.heap.size (.slice none 0 0) (.slice none 0 0) (.int .i64 0) (.int .i64 0) from heap_alloc2_old w (.cells #[.slice none 0 0, .slice none 0 0, .int .i64 0, .int .i64 0] 24) _)
  have F4' := Lib.hid (show F4 ((w.alloc (.cells #[.slice none 0 0, .slice none 0 0, .int .i64 0, .int .i64 0] 24)).alloc (.cells #[.slice none 0 0, .slice none 0 0, .int .i64 0, .int .i64 0] 24)) (w.heap.size + 1) (.slice none 0 0) (.slice none 0 0) (.int .i64 0) (.int .i64 0) from heap_alloc2_new w _ (.cells #[.slice none 0 0, .slice none 0 0, .int .i64 0, .int .i64 0] 24))
  have BW := Lib.hid (show Below w.heap.size w ((w.alloc (.cells #[.slice none 0 0, .slice none 0 0, .int .i64 0, .int .i64 0] 24)).alloc (.cells #[.slice none 0 0, .slice none 0 0, .int .i64 0, .int .i64 0] 24)) from ((Below.refl _ w).alloc (Nat.le_refl _) _).alloc (by simp) _)
  have SZ := Lib.hid (show ((w.alloc (.cells #[.slice none 0 0, .slice none 0 0, .int .i64 0, .int .i64 0] 24)).alloc (.cells #[.slice none 0 0, .slice none 0 0, .int .i64 0, .int .i64 0] 24)).heap.size = w.heap.size + 2 from by simp)
  generalize ((w.alloc (.cells #[.slice none 0 0, .slice none 0 0, .int .i64 0, .int .i64 0] 24)).alloc (.cells #[.slice none 0 0, .slice none 0 0, .int .i64 0, .int .i64 0] 24)) = y0 at *
  obtain ⟨g, hg⟩ : ∃ g, w.heap.size + 1 = g := ⟨_, rfl⟩
  have HG := Lib.hid (show w.heap.size ≤ g ∧ w.heap.size ≠ g from by omega)
  have SZ2 := Lib.hid (show g < y0.heap.size from by have := SZ.out; omega)
  rw [hg] at F4'
  try rw [hg]
  clear hg SZ
  obtain ⟨c0, c1, c2, c3, fz⟩ := F4'.out.facts
  have fj := fz 0
  clear fz
  go_upto_region 4 with (go_at_call 20; refine (P1.out _).mono ?_; rintro e y1 ⟨⟨A, ca, rfl, i1, hA, _, _⟩, hb⟩; have I1 := Lib.hid i1; have HA := Lib.hid (show ∀ b o, A = some ⟨b, o, none⟩ → b ≠ g from fun b o e => by have := hA b o e; have := SZ2.out; omega); have NA := Lib.hid (show ∀ b o, A = some ⟨b, o, none⟩ → b ≠ w.heap.size from fun b o e => by have := hA b o e; have := SZ2.out; have := HG.out; omega); clear i1 hA P1; clear c0 c1 c2 c3 fj; replace F2 := Lib.hid (F2.out.over hb); replace F4' := Lib.hid (F4'.out.over hb); replace BW := Lib.hid (BW.out.trans (hb.mono BW.out.size)); obtain ⟨c0, c1, c2, c3, fz⟩ := F4'.out.facts; have fj := fz 0; clear fz hb)
  clear c0 c1 c2 c3 fj
  replace F4' := Lib.hid (F4'.out.set0 (.slice A lo.length ca))
  replace F2 := Lib.hid (show F4 (y1.setCell ⟨g, 0, none⟩ (.slice A lo.length ca)) w.heap.size (.slice none 0 0) (.slice none 0 0) (.int .i64 0) (.int .i64 0) from (Below.heap_setCell y1 ⟨g, 0, none⟩ (.slice A lo.length ca) w.heap.size HG.out.2).trans F2.out)
  replace BW := Lib.hid (BW.out.setCell (p := ⟨g, 0, none⟩) HG.out.1 (.slice A lo.length ca))
  replace I1 := Lib.hid (ints_set (o := 0) (v := .slice A lo.length ca) I1.out HA.out)
  generalize y1.setCell ⟨g, 0, none⟩ (.slice A lo.length ca) = y2 at *
  have SZ3 := Lib.hid F4'.out.lt
  go_upto_region 5 with (go_at_call 21; refine (T1.out _).mono ?_; rintro e w9 ⟨rfl, hw⟩; have hw := hw.symm; subst hw)
  obtain ⟨c0, c1, c2, c3, fz⟩ := F4'.out.facts
  have fj := fz 1
  clear fz
  go_upto_region 6 with (go_at_call 20; refine (P2.out _).mono ?_; rintro e y3 ⟨⟨B, cb, rfl, i2, hB, _, _⟩, hb⟩; have I2 := Lib.hid i2; have HB := Lib.hid (show ∀ b o, B = some ⟨b, o, none⟩ → b ≠ g from fun b o e => by have := hB b o e; have := SZ3.out; omega); have NB := Lib.hid (show ∀ b o, B = some ⟨b, o, none⟩ → b ≠ w.heap.size from fun b o e => by have := hB b o e; have := SZ3.out; have := HG.out; omega); clear i2 hB P2; clear c0 c1 c2 c3 fj; replace F2 := Lib.hid (F2.out.over hb); replace F4' := Lib.hid (F4'.out.over hb); replace BW := Lib.hid (BW.out.trans (hb.mono BW.out.size)); replace I1 := Lib.hid (I1.out.over hb); obtain ⟨c0, c1, c2, c3, fz⟩ := F4'.out.facts; have fj := fz 1; clear fz hb)
  clear c0 c1 c2 c3 fj
  replace F4' := Lib.hid (F4'.out.set1 (.slice B hi.length cb))
  replace F2 := Lib.hid (show F4 (y3.setCell ⟨g, 1, none⟩ (.slice B hi.length cb)) w.heap.size (.slice none 0 0) (.slice none 0 0) (.int .i64 0) (.int .i64 0) from (Below.heap_setCell y3 ⟨g, 1, none⟩ (.slice B hi.length cb) w.heap.size HG.out.2).trans F2.out)
  replace BW := Lib.hid (BW.out.setCell (p := ⟨g, 1, none⟩) HG.out.1 (.slice B hi.length cb))
  replace I1 := Lib.hid (ints_set (o := 1) (v := .slice B hi.length cb) I1.out HA.out)
  replace I2 := Lib.hid (ints_set (o := 1) (v := .slice B hi.length cb) I2.out HB.out)
  generalize y3.setCell ⟨g, 1, none⟩ (.slice B hi.length cb) = y4 at *
  go_upto_region 7 with (go_at_call 21; refine (T2.out _).mono ?_; rintro e w9 ⟨rfl, hw⟩; have hw := hw.symm; subst hw)
  obtain ⟨c0, c1, c2, c3, fz⟩ := F4'.out.facts
  have fj := fz 2
  clear fz
  go_upto_region 8 with (go_at_call 22; refine (N1.out _).mono ?_; rintro e y5 ⟨rfl, hb⟩; clear N1; clear c0 c1 c2 c3 fj; replace F2 := Lib.hid (F2.out.over hb); replace F4' := Lib.hid (F4'.out.over hb); replace BW := Lib.hid (BW.out.trans (hb.mono BW.out.size)); replace I1 := Lib.hid (I1.out.over hb); replace I2 := Lib.hid (I2.out.over hb); obtain ⟨c0, c1, c2, c3, fz⟩ := F4'.out.facts; have fj := fz 2; clear fz hb)
  clear c0 c1 c2 c3 fj
  replace F4' := Lib.hid (F4'.out.set2 (.int .i64 mn))
  replace F2 := Lib.hid (show F4 (y5.setCell ⟨g, 2, none⟩ (.int .i64 mn)) w.heap.size (.slice none 0 0) (.slice none 0 0) (.int .i64 0) (.int .i64 0) from (Below.heap_setCell y5 ⟨g, 2, none⟩ (.int .i64 mn) w.heap.size HG.out.2).trans F2.out)
  replace BW := Lib.hid (BW.out.setCell (p := ⟨g, 2, none⟩) HG.out.1 (.int .i64 mn))
  replace I1 := Lib.hid (ints_set (o := 2) (v := .int .i64 mn) I1.out HA.out)
  replace I2 := Lib.hid (ints_set (o := 2) (v := .int .i64 mn) I2.out HB.out)
  generalize y5.setCell ⟨g, 2, none⟩ (.int .i64 mn) = y6 at *
  go_upto_region 9 with (go_at_call 21; refine (T3.out _).mono ?_; rintro e w9 ⟨rfl, hw⟩; have hw := hw.symm; subst hw)
  obtain ⟨c0, c1, c2, c3, fz⟩ := F4'.out.facts
  have fj := fz 3
  clear fz
  go_upto_region 10 with (go_at_call 22; refine (N2.out _).mono ?_; rintro e y7 ⟨rfl, hb⟩; clear N2; clear c0 c1 c2 c3 fj; replace F2 := Lib.hid (F2.out.over hb); replace F4' := Lib.hid (F4'.out.over hb); replace BW := Lib.hid (BW.out.trans (hb.mono BW.out.size)); replace I1 := Lib.hid (I1.out.over hb); replace I2 := Lib.hid (I2.out.over hb); obtain ⟨c0, c1, c2, c3, fz⟩ := F4'.out.facts; have fj := fz 3; clear fz hb)
  clear c0 c1 c2 c3 fj
  replace F4' := Lib.hid (F4'.out.set3 (.int .i64 mx))
  replace F2 := Lib.hid (show F4 (y7.setCell ⟨g, 3, none⟩ (.int .i64 mx)) w.heap.size (.slice none 0 0) (.slice none 0 0) (.int .i64 0) (.int .i64 0) from (Below.heap_setCell y7 ⟨g, 3, none⟩ (.int .i64 mx) w.heap.size HG.out.2).trans F2.out)
  replace BW := Lib.hid (BW.out.setCell (p := ⟨g, 3, none⟩) HG.out.1 (.int .i64 mx))
  replace I1 := Lib.hid (ints_set (o := 3) (v := .int .i64 mx) I1.out HA.out)
  replace I2 := Lib.hid (ints_set (o := 3) (v := .int .i64 mx) I2.out HB.out)
  generalize y7.setCell ⟨g, 3, none⟩ (.int .i64 mx) = y8 at *
  obtain ⟨c0, c1, c2, c3, fz⟩ := F4'.out.facts
  go_upto_region 11 with (go_at_call 7; refine (TA.out A B ca cb _ I1.out I2.out).mono ?_; rintro e y9 ⟨rfl, hb⟩; clear c0 c1 c2 c3 fz; replace F2 := Lib.hid (F2.out.over hb); replace F4' := Lib.hid (F4'.out.over hb); replace BW := Lib.hid (BW.out.trans (hb.mono BW.out.size)); replace I1 := Lib.hid (I1.out.over hb); replace I2 := Lib.hid (I2.out.over hb); clear hb TA)
  have e3 : T0.toList = (st s).toList ↔ T0 = st s := ⟨fun h => bytes_eq (by rw [ByteArray.toList_eq, ByteArray.toList_eq] at h; exact h), fun h => by rw [h]⟩
  by_cases hE : TE = 0
  · subst hE
    by_cases hS : T0 = st s
    · have hb : (!T0.toList == (st s).toList) = false := by rw [e3.2 hS]; simp
      have HS := Lib.hid hS
      clear hS e3
      obtain ⟨a0, a1, a2, a3, fa⟩ := F2.out.facts
      have g0 := fa 0
      have g1 := fa 1
      have g2 := fa 2
      have g3 := fa 3
      obtain ⟨c0, c1, c2, c3, fz⟩ := F4'.out.facts
      clear fa fz
      go_wp2_with fail
      have PZ := (((F2.out.set0 (.slice A lo.length ca)).set1 (.slice B hi.length cb)).set2 (.int .i64 mn)).set3 (.int .i64 mx)
      have BZ := (((BW.out.setCell (p := ⟨w.heap.size, 0, none⟩) (Nat.le_refl _) (.slice A lo.length ca)).setCell (p := ⟨w.heap.size, 1, none⟩) (Nat.le_refl _) (.slice B hi.length cb)).setCell (p := ⟨w.heap.size, 2, none⟩) (Nat.le_refl _) (.int .i64 mn)).setCell (p := ⟨w.heap.size, 3, none⟩) (Nat.le_refl _) (.int .i64 mx)
      refine bodyPost_ret (v := .tuple #[.agg #[.slice A lo.length ca, .slice B hi.length cb, .int .i64 mn, .int .i64 mx], .int .i64 0]) (Eq.trans (results_row_tmpX (p := 2) (u := 3) rfl _ _ w.heap.size 24 _ (0, 0) _ rfl PZ Tryz.underlying24 rfl (by kernel_rfl)) rfl) rfl ?_
      refine ⟨?_, BZ⟩
      rw [if_pos (show (T0, (0 : Int)).2 = 0 ∧ (T0, (0 : Int)).1 = st s from ⟨rfl, HS.out⟩)]
      obtain ⟨q1, q2, q3, q4⟩ := EQS.out
      rw [q1, q2, q3, q4]
      have ja : ∀ o v (W : World), Ints W A lo → Ints (W.setCell ⟨w.heap.size, o, none⟩ v) A lo := fun o v W h => ints_set h NA.out
      have jb : ∀ o v (W : World), Ints W B hi → Ints (W.setCell ⟨w.heap.size, o, none⟩ v) B hi := fun o v W h => ints_set h NB.out
      exact ⟨A, ca, B, cb, rfl, ja _ _ _ (ja _ _ _ (ja _ _ _ (ja _ _ _ I1.out))), jb _ _ _ (jb _ _ _ (jb _ _ _ (jb _ _ _ I2.out)))⟩

    · have hb : (!T0.toList == (st s).toList) = true := by simpa using fun h => hS (e3.1 h)
      have HS := Lib.hid hS
      clear hS e3
      obtain ⟨a0, a1, a2, a3, fa⟩ := F2.out.facts
      have g0 := fa 0
      have g1 := fa 1
      have g2 := fa 2
      have g3 := fa 3
      obtain ⟨c0, c1, c2, c3, fz⟩ := F4'.out.facts
      clear fa fz
      go_wp2_with fail
      have PZ := (((F2.out.set0 (.slice none 0 0)).set1 (.slice none 0 0)).set2 (.int .i64 0)).set3 (.int .i64 0)
      have BZ := (((BW.out.setCell (p := ⟨w.heap.size, 0, none⟩) (Nat.le_refl _) (.slice none 0 0)).setCell (p := ⟨w.heap.size, 1, none⟩) (Nat.le_refl _) (.slice none 0 0)).setCell (p := ⟨w.heap.size, 2, none⟩) (Nat.le_refl _) (.int .i64 0)).setCell (p := ⟨w.heap.size, 3, none⟩) (Nat.le_refl _) (.int .i64 0)
      refine bodyPost_ret (v := .tuple #[.agg #[.slice none 0 0, .slice none 0 0, .int .i64 0, .int .i64 0], .int .i64 3]) (Eq.trans (results_row_tmpX (p := 2) (u := 3) rfl _ _ w.heap.size 24 _ (0, 0) _ rfl PZ Tryz.underlying24 rfl (by kernel_rfl)) rfl) rfl ?_
      exact ⟨by rw [if_neg (by rintro ⟨p1, p2⟩; exact HS.out p2)], BZ⟩

  · have HE := Lib.hid hE
    clear e3
    obtain ⟨a0, a1, a2, a3, fa⟩ := F2.out.facts
    have g0 := fa 0
    have g1 := fa 1
    have g2 := fa 2
    have g3 := fa 3
    obtain ⟨c0, c1, c2, c3, fz⟩ := F4'.out.facts
    clear fa fz
    go_wp2_with fail
    have PZ := (((F2.out.set0 (.slice none 0 0)).set1 (.slice none 0 0)).set2 (.int .i64 0)).set3 (.int .i64 0)
    have BZ := (((BW.out.setCell (p := ⟨w.heap.size, 0, none⟩) (Nat.le_refl _) (.slice none 0 0)).setCell (p := ⟨w.heap.size, 1, none⟩) (Nat.le_refl _) (.slice none 0 0)).setCell (p := ⟨w.heap.size, 2, none⟩) (Nat.le_refl _) (.int .i64 0)).setCell (p := ⟨w.heap.size, 3, none⟩) (Nat.le_refl _) (.int .i64 0)
    refine bodyPost_ret (v := .tuple #[.agg #[.slice none 0 0, .slice none 0 0, .int .i64 0, .int .i64 0], .int .i64 3]) (Eq.trans (results_row_tmpX (p := 2) (u := 3) rfl _ _ w.heap.size 24 _ (0, 0) _ rfl PZ Tryz.underlying24 rfl (by kernel_rfl)) rfl) rfl ?_
    exact ⟨by rw [if_neg (by rintro ⟨p1, p2⟩; exact HE.out p1)], BZ⟩
end Go.Proofs.YtcbjkclajkjicaaGreatDoor
