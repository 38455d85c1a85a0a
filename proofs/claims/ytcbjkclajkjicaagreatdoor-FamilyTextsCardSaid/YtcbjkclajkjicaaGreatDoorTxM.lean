/-
  Reading a family's text: the program's Parse, over any contracts of read and Text.
-/
import Derived.Test.YtcbjkclajkjicaaGreatDoorTxL
namespace Go.Proofs.YtcbjkclajkjicaaGreatDoor
set_option linter.unusedSimpArgs false
set_option linter.unusedVariables false
open Go Go.RowKit Go.Lib Go.Ev

/-- what the program's Parse answers, where read reads this -/
def ParsePRes (s : List UInt8) (lo hi : List Int) (mn mx : Int) (T : ByteArray × Int) (w : World) (e : Ending) (w' : World) : Prop :=
  (if T.2 = 0 ∧ T.1 = st s then ∃ A ca B cb, e = .returned (.tuple #[.agg #[.slice A lo.length ca, .slice B hi.length cb, .int .i64 mn, .int .i64 mx], .int .i64 0]) ∧ Ints w' A lo ∧ Ints w' B hi
   else e = .returned (.tuple #[.agg #[.slice none 0 0, .slice none 0 0, .int .i64 0, .int .i64 0], .int .i64 3])) ∧ Below w.heap.size w w'
set_option maxRecDepth 100000 in
set_option maxHeartbeats 16000000 in
theorem ParseP_any (s : List UInt8) (h1 : s.length ≤ 1000000) (lo hi : List Int) (mn mx : Int) (T : ByteArray × Int) (w : World)
    (RD : ∀ w1, Below w.heap.size w w1 → Calls Tryz.prog 19 #[.string (st s)] w1 fun e w' => (∃ A ca B cb, e = .returned (.agg #[.slice A lo.length ca, .slice B hi.length cb, .int .i64 mn, .int .i64 mx]) ∧ Ints w' A lo ∧ Ints w' B hi ∧ (∀ b o, A = some ⟨b, o, none⟩ → w1.heap.size ≤ b) ∧ (∀ b o, B = some ⟨b, o, none⟩ → w1.heap.size ≤ b)) ∧ Below w1.heap.size w1 w')
    (TX : ∀ A B ca cb w1, Ints w1 A lo → Ints w1 B hi → Calls Tryz.prog 6 #[.agg #[.slice A lo.length ca, .slice B hi.length cb, .int .i64 mn, .int .i64 mx]] w1 fun e w' => e = .returned (.tuple #[.string T.1, .int .i64 T.2]) ∧ Below w1.heap.size w1 w') :
    Calls Tryz.prog 8 #[.string (st s)] w (ParsePRes s lo hi mn mx T w) := by
  have TA := Lib.hid TX
  have RH := Lib.hid RD
  clear TX RD h1
  obtain ⟨T0, TE⟩ := T
  go_enter Tryz.func8, Tryz.ntmps8
  go_upto_region 1 with fail
  have F2 := Lib.hid (show F4 (w.alloc (.cells #[.slice none 0 0, .slice none 0 0, .int .i64 0, .int .i64 0] 24)) w.heap.size (.slice none 0 0) (.slice none 0 0) (.int .i64 0) (.int .i64 0) from heap_alloc_new w (.cells #[.slice none 0 0, .slice none 0 0, .int .i64 0, .int .i64 0] 24))
  have BW := Lib.hid (show Below w.heap.size w (w.alloc (.cells #[.slice none 0 0, .slice none 0 0, .int .i64 0, .int .i64 0] 24)) from (Below.refl _ w).alloc (Nat.le_refl _) _)
  have SZ := Lib.hid (show (w.alloc (.cells #[.slice none 0 0, .slice none 0 0, .int .i64 0, .int .i64 0] 24)).heap.size = w.heap.size + 1 from by simp)
  generalize (w.alloc (.cells #[.slice none 0 0, .slice none 0 0, .int .i64 0, .int .i64 0] 24)) = y0 at *
  go_upto_region 2 with (go_at_call 19; refine (RH.out _ BW.out).mono ?_; rintro e y1 ⟨⟨A, ca, B, cb, rfl, i1, i2, hA, hB⟩, hb⟩; have I1 := Lib.hid i1; have I2 := Lib.hid i2; have NA := Lib.hid (show ∀ b o, A = some ⟨b, o, none⟩ → b ≠ w.heap.size from fun b o e => by have := hA b o e; have := SZ.out; omega); have NB := Lib.hid (show ∀ b o, B = some ⟨b, o, none⟩ → b ≠ w.heap.size from fun b o e => by have := hB b o e; have := SZ.out; omega); replace F2 := Lib.hid (F2.out.over hb); replace BW := Lib.hid (BW.out.trans (hb.mono BW.out.size)); clear hA hB i1 i2 hb RH)
  have BN := Lib.hid (show Below y1.heap.size y1 (y1.alloc (.cells #[.slice A lo.length ca, .slice B hi.length cb, .int .i64 mn, .int .i64 mx] 24)) from (Below.refl _ y1).alloc (Nat.le_refl _) _)
  have F4' := Lib.hid (show F4 (y1.alloc (.cells #[.slice A lo.length ca, .slice B hi.length cb, .int .i64 mn, .int .i64 mx] 24)) y1.heap.size (.slice A lo.length ca) (.slice B hi.length cb) (.int .i64 mn) (.int .i64 mx) from heap_alloc_new y1 (.cells #[.slice A lo.length ca, .slice B hi.length cb, .int .i64 mn, .int .i64 mx] 24))
  replace F2 := Lib.hid (F2.out.over BN.out)
  replace BW := Lib.hid (BW.out.trans (BN.out.mono BW.out.size))
  replace I1 := Lib.hid (I1.out.over BN.out)
  replace I2 := Lib.hid (I2.out.over BN.out)
  clear BN SZ
  generalize (y1.alloc (.cells #[.slice A lo.length ca, .slice B hi.length cb, .int .i64 mn, .int .i64 mx] 24)) = y2 at *
  generalize y1.heap.size = g at *
  obtain ⟨c0, c1, c2, c3, fz⟩ := F4'.out.facts
  go_upto_region 3 with (go_at_call 6; refine (TA.out A B ca cb _ I1.out I2.out).mono ?_; rintro e y9 ⟨rfl, hb⟩; clear c0 c1 c2 c3 fz; replace F2 := Lib.hid (F2.out.over hb); replace F4' := Lib.hid (F4'.out.over hb); replace BW := Lib.hid (BW.out.trans (hb.mono BW.out.size)); replace I1 := Lib.hid (I1.out.over hb); replace I2 := Lib.hid (I2.out.over hb); clear hb TA)
  have e3 : T0.toList = (st s).toList ↔ T0 = st s := ⟨fun h => bytes_eq (by rw [ByteArray.toList_eq, ByteArray.toList_eq] at h; exact h), fun h => by rw [h]⟩
  by_cases hE : TE = 0
  · subst hE
    by_cases hS : T0 = st s
    · have hb : (!T0.toList == (st s).toList) = false := by rw [e3.2 hS]; simp
      have HS := Lib.hid hS
      clear hS e3
      obtain ⟨a0, a1, a2, a3, fa⟩ := F2.out.facts
      have g0 := fa 0
      have g1 := fa 1
      have g2 := fa 2
      have g3 := fa 3
      obtain ⟨c0, c1, c2, c3, fz⟩ := F4'.out.facts
      clear fa fz
      go_wp2_with fail
      have PZ := (((F2.out.set0 (.slice A lo.length ca)).set1 (.slice B hi.length cb)).set2 (.int .i64 mn)).set3 (.int .i64 mx)
      have BZ := (((BW.out.setCell (p := ⟨w.heap.size, 0, none⟩) (Nat.le_refl _) (.slice A lo.length ca)).setCell (p := ⟨w.heap.size, 1, none⟩) (Nat.le_refl _) (.slice B hi.length cb)).setCell (p := ⟨w.heap.size, 2, none⟩) (Nat.le_refl _) (.int .i64 mn)).setCell (p := ⟨w.heap.size, 3, none⟩) (Nat.le_refl _) (.int .i64 mx)
      refine bodyPost_ret (v := .tuple #[.agg #[.slice A lo.length ca, .slice B hi.length cb, .int .i64 mn, .int .i64 mx], .int .i64 0]) (Eq.trans (results_row_tmpX (p := 2) (u := 3) rfl _ _ w.heap.size 24 _ (0, 0) _ rfl PZ Tryz.underlying24 rfl (by kernel_rfl)) rfl) rfl ?_
      refine ⟨?_, BZ⟩
      rw [if_pos (show (T0, (0 : Int)).2 = 0 ∧ (T0, (0 : Int)).1 = st s from ⟨rfl, HS.out⟩)]
      have ja : ∀ o v (W : World), Ints W A lo → Ints (W.setCell ⟨w.heap.size, o, none⟩ v) A lo := fun o v W h => ints_set h NA.out
      have jb : ∀ o v (W : World), Ints W B hi → Ints (W.setCell ⟨w.heap.size, o, none⟩ v) B hi := fun o v W h => ints_set h NB.out
      exact ⟨A, ca, B, cb, rfl, ja _ _ _ (ja _ _ _ (ja _ _ _ (ja _ _ _ I1.out))), jb _ _ _ (jb _ _ _ (jb _ _ _ (jb _ _ _ I2.out)))⟩

    · have hb : (!T0.toList == (st s).toList) = true := by simpa using fun h => hS (e3.1 h)
      have HS := Lib.hid hS
      clear hS e3
      obtain ⟨a0, a1, a2, a3, fa⟩ := F2.out.facts
      have g0 := fa 0
      have g1 := fa 1
      have g2 := fa 2
      have g3 := fa 3
      obtain ⟨c0, c1, c2, c3, fz⟩ := F4'.out.facts
      clear fa fz
      go_wp2_with fail
      have PZ := (((F2.out.set0 (.slice none 0 0)).set1 (.slice none 0 0)).set2 (.int .i64 0)).set3 (.int .i64 0)
      have BZ := (((BW.out.setCell (p := ⟨w.heap.size, 0, none⟩) (Nat.le_refl _) (.slice none 0 0)).setCell (p := ⟨w.heap.size, 1, none⟩) (Nat.le_refl _) (.slice none 0 0)).setCell (p := ⟨w.heap.size, 2, none⟩) (Nat.le_refl _) (.int .i64 0)).setCell (p := ⟨w.heap.size, 3, none⟩) (Nat.le_refl _) (.int .i64 0)
      refine bodyPost_ret (v := .tuple #[.agg #[.slice none 0 0, .slice none 0 0, .int .i64 0, .int .i64 0], .int .i64 3]) (Eq.trans (results_row_tmpX (p := 2) (u := 3) rfl _ _ w.heap.size 24 _ (0, 0) _ rfl PZ Tryz.underlying24 rfl (by kernel_rfl)) rfl) rfl ?_
      exact ⟨by rw [if_neg (by rintro ⟨p1, p2⟩; exact HS.out p2)], BZ⟩

  · have HE := Lib.hid hE
    clear e3
    obtain ⟨a0, a1, a2, a3, fa⟩ := F2.out.facts
    have g0 := fa 0
    have g1 := fa 1
    have g2 := fa 2
    have g3 := fa 3
    obtain ⟨c0, c1, c2, c3, fz⟩ := F4'.out.facts
    clear fa fz
    go_wp2_with fail
    have PZ := (((F2.out.set0 (.slice none 0 0)).set1 (.slice none 0 0)).set2 (.int .i64 0)).set3 (.int .i64 0)
    have BZ := (((BW.out.setCell (p := ⟨w.heap.size, 0, none⟩) (Nat.le_refl _) (.slice none 0 0)).setCell (p := ⟨w.heap.size, 1, none⟩) (Nat.le_refl _) (.slice none 0 0)).setCell (p := ⟨w.heap.size, 2, none⟩) (Nat.le_refl _) (.int .i64 0)).setCell (p := ⟨w.heap.size, 3, none⟩) (Nat.le_refl _) (.int .i64 0)
    refine bodyPost_ret (v := .tuple #[.agg #[.slice none 0 0, .slice none 0 0, .int .i64 0, .int .i64 0], .int .i64 3]) (Eq.trans (results_row_tmpX (p := 2) (u := 3) rfl _ _ w.heap.size 24 _ (0, 0) _ rfl PZ Tryz.underlying24 rfl (by kernel_rfl)) rfl) rfl ?_
    exact ⟨by rw [if_neg (by rintro ⟨p1, p2⟩; exact HE.out p1)], BZ⟩
end Go.Proofs.YtcbjkclajkjicaaGreatDoor
