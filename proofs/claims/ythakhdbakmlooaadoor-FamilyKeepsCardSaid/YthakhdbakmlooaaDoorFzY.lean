/-
  Meet: the program's.
-/
import Derived.Deep.CutRange
import Derived.Laws.Bits64
import Derived.Test.YthakhdbakmlooaaDoorKaK
namespace Go.Proofs.YthakhdbakmlooaaDoor
set_option linter.unusedSimpArgs false
open Go Go.RowKit Go.Shelf Go.Ev

theorem and_self64 {b c : Nat} (hc : c < 18446744073709551616) : sub64 b (18446744073709551615 - c) = b &&& c := by
  unfold sub64
  rw [show 18446744073709551615 - (18446744073709551615 - c) = c by omega]
theorem xor_all {c : Nat} (hc : c < 18446744073709551616) : 18446744073709551615 ^^^ c = 18446744073709551615 - c := by
  have e0 : (18446744073709551615 : Nat) = 2 ^ 64 - (0 + 1) := by decide
  have e : 18446744073709551615 - c = 2 ^ 64 - (c + 1) := by
    have : (2 : Nat) ^ 64 = 18446744073709551616 := by decide
    omega
  refine Nat.eq_of_testBit_eq fun t => ?_
  rw [e, Nat.testBit_two_pow_sub_succ (show c < 2 ^ 64 from hc), Nat.testBit_xor, e0, Nat.testBit_two_pow_sub_succ (by decide), Nat.zero_testBit]
  by_cases ht : t < 64
  · simp [ht]
  · have : c.testBit t = false := Nat.testBit_lt_two_pow (Nat.lt_of_lt_of_le hc (Nat.pow_le_pow_right (n := 2) (by decide) (show 64 ≤ t by omega)))
    simp [ht, this]
theorem xor_u64 (c : Nat) (hc : c < 18446744073709551616) : bits .xor .u64 IntKind.u64.max (c : Int) = ((18446744073709551615 - c : Nat) : Int) := by
  rw [show IntKind.u64.max = ((18446744073709551615 : Nat) : Int) from rfl, bits_xor_u64_nat _ _ (by decide) hc, xor_all hc]
/-- what Meet comes out as -/
def MeetRes (v : Bool) (lo hi : Nat) (mn mx : Int) (w : World) (e : Ending) (w' : World) : Prop :=
  (if v = true then NormRes lo hi mn mx w.heap.size e w' else e = .returned (.tuple #[.agg #[.slice none 0 0, .slice none 0 0, .int .i64 0, .int .i64 0], .int .i64 2])) ∧ Below w.heap.size w w'
/-- two bounds lie beside what was there -/
def TwoBd (base : Nat) (L H : Nat) (mn mx : Int) (L' H' : Nat) (mn' mx' : Int) (g6 g7 : Nat) (wx : World) : Prop :=
  g6 ≠ g7 ∧ base + 3 ≤ g6 ∧ base + 3 ≤ g7 ∧ Bd wx g6 L H mn mx ∧ Bd wx g7 L' H' mn' mx'
theorem TwoBd.step {base L H : Nat} {mn mx : Int} {L' H' : Nat} {mn' mx' : Int} {g6 g7 : Nat} {wx wy : World} {L1 H1 : Nat} {m1 x1 : Int} (h : TwoBd base L H mn mx L' H' mn' mx' g6 g7 wx) (b : Bd wy g6 L1 H1 m1 x1) (o : Only g6 wx wy) : TwoBd base L1 H1 m1 x1 L' H' mn' mx' g6 g7 wy :=
  ⟨h.1, h.2.1, h.2.2.1, b, (o.2 g7 h.1.symm).trans h.2.2.2.2⟩
theorem zb_facts {w : World} {B : Nat} (h : w.heap[B]? = some (.cells #[.int .u64 0, .int .u64 0, .int .i64 0, .int .i64 0] 53 (0, 0))) : w.cell? ⟨B, 0, none⟩ = some (.int .u64 0) ∧ w.cell? ⟨B, 1, none⟩ = some (.int .u64 0) ∧ w.cell? ⟨B, 2, none⟩ = some (.int .i64 0) ∧ w.cell? ⟨B, 3, none⟩ = some (.int .i64 0) ∧ ∀ o, w.frozen? ⟨B, o, none⟩ = false := by
  refine ⟨?_, ?_, ?_, ?_, fun o => by simp [World.frozen?, h]⟩ <;> (simp only [World.cell?, h]; rfl)
/-- zero bounds -/
abbrev ZB : Obj := .cells #[.int .u64 0, .int .u64 0, .int .i64 0, .int .i64 0] 53
/-- bounds written whole -/
theorem put4 {V : World} {g : Nat} {a b c d : Value} (h : V.heap[g]? = some (.cells #[a, b, c, d] 53 (0, 0))) (lo hi : Nat) (mn mx : Int) :
    Bd ((((V.setCell ⟨g, 0, none⟩ (.int .u64 lo)).setCell ⟨g, 1, none⟩ (.int .u64 hi)).setCell ⟨g, 2, none⟩ (.int .i64 mn)).setCell ⟨g, 3, none⟩ (.int .i64 mx)) g lo hi mn mx ∧
    Only g V ((((V.setCell ⟨g, 0, none⟩ (.int .u64 lo)).setCell ⟨g, 1, none⟩ (.int .u64 hi)).setCell ⟨g, 2, none⟩ (.int .i64 mn)).setCell ⟨g, 3, none⟩ (.int .i64 mx)) := by
  have h0 := heap_setCell_same _ g 0 _ _ (.int .u64 lo) h
  have h1 := heap_setCell_same _ g 1 _ _ (.int .u64 hi) h0
  have h2 := heap_setCell_same _ g 2 _ _ (.int .i64 mn) h1
  have h3 := heap_setCell_same _ g 3 _ _ (.int .i64 mx) h2
  exact ⟨h3, (((Only.set _ _ _).trans (Only.set _ _ _)).trans (Only.set _ _ _)).trans (Only.set _ _ _)⟩
/-- what has been allocated so far -/
def Lay (base : Nat) (y : World) (o6 o7 : Option Nat) (V : World) : Prop :=
  Below base y V ∧ base ≤ V.heap.size ∧ (∀ g, o6 = some g → base ≤ g ∧ g < V.heap.size ∧ V.heap[g]? = some ZB) ∧ (∀ g, o7 = some g → base ≤ g ∧ g < V.heap.size ∧ V.heap[g]? = some ZB) ∧ (∀ g h, o6 = some g → o7 = some h → g ≠ h)
theorem Lay.call {base : Nat} {y V V' : World} {o6 o7 : Option Nat} (h : Lay base y o6 o7 V) (hb : Below V.heap.size V V') : Lay base y o6 o7 V' := by
  obtain ⟨h1, h2, h3, h4, h5⟩ := h
  have hs := hb.size
  refine ⟨h1.trans (hb.mono h2), by omega, fun g hg => ?_, fun g hg => ?_, h5⟩
  · obtain ⟨a, b, c⟩ := h3 g hg
    exact ⟨a, by omega, (hb.block g b).trans c⟩
  · obtain ⟨a, b, c⟩ := h4 g hg
    exact ⟨a, by omega, (hb.block g b).trans c⟩
theorem Lay.alloc6 {base : Nat} {y V : World} {o7 : Option Nat} (h : Lay base y none o7 V) : Lay base y (some V.heap.size) o7 (V.alloc ZB) := by
  obtain ⟨h1, h2, h3, h4, h5⟩ := h
  have hb : Below V.heap.size V (V.alloc ZB) := (Below.refl _ V).alloc (Nat.le_refl _) _
  refine ⟨h1.trans (hb.mono h2), by simp; omega, fun g hg => ?_, fun g hg => ?_, fun g k hg hk => ?_⟩
  · cases hg
    exact ⟨h2, by simp, heap_alloc_new _ _⟩
  · obtain ⟨a, b, c⟩ := h4 g hg
    exact ⟨a, by simp; omega, (hb.block g b).trans c⟩
  · cases hg
    obtain ⟨a, b, c⟩ := h4 k hk
    omega
theorem Lay.alloc7 {base : Nat} {y V : World} {o6 : Option Nat} (h : Lay base y o6 none V) : Lay base y o6 (some V.heap.size) (V.alloc ZB) := by
  obtain ⟨h1, h2, h3, h4, h5⟩ := h
  have hb : Below V.heap.size V (V.alloc ZB) := (Below.refl _ V).alloc (Nat.le_refl _) _
  refine ⟨h1.trans (hb.mono h2), by simp; omega, fun g hg => ?_, fun g hg => ?_, fun g k hg hk => ?_⟩
  · obtain ⟨a, b, c⟩ := h3 g hg
    exact ⟨a, by simp; omega, (hb.block g b).trans c⟩
  · cases hg
    exact ⟨h2, by simp, heap_alloc_new _ _⟩
  · cases hk
    obtain ⟨a, b, c⟩ := h3 g hg
    omega
set_option maxRecDepth 100000 in
set_option maxHeartbeats 8000000 in
theorem Meet_p_any (lo hi : List Int) (mn mx : Int) (A B : Option Addr) (c1 c2 : Nat) (lo' hi' : List Int) (mn' mx' : Int) (A' B' : Option Addr) (c1' c2' : Nat) (w : World) (ha : Ints w A lo) (hb : Ints w B hi) (ha' : Ints w A' lo') (hb' : Ints w B' hi') (hT : TabIn w) :
    Calls Tryd.prog 21 #[.agg #[.slice A lo.length c1, .slice B hi.length c2, .int .i64 mn, .int .i64 mx], .agg #[.slice A' lo'.length c1', .slice B' hi'.length c2', .int .i64 mn', .int .i64 mx']] w (MeetRes (validFB lo hi mn mx && validFB lo' hi' mn' mx') (setN lo ||| setN lo') (setN hi &&& setN hi') (max mn mn') (min mx mx') w) := by
  have hw0 := hT.lt
  have HT := Lib.hid hT
  have VP := Lib.hid (fun w1 (h : Below w.heap.size w w1) => FValid_p_any lo hi mn mx A B c1 c2 w1 (ha.over h) (hb.over h))
  have VQ := Lib.hid (fun w1 (h : Below w.heap.size w w1) => FValid_p_any lo' hi' mn' mx' A' B' c1' c2' w1 (ha'.over h) (hb'.over h))
  have VL := Lib.hid (show ∀ (lo hi : List Int) (mn mx : Int), validFB lo hi mn mx = true → lo.all inR = true ∧ hi.all inR = true from fun lo hi mn mx h => by
    unfold validFB elemsB at h
    simp only [Bool.and_eq_true] at h
    exact ⟨h.1.1.1.2, h.1.1.2.2⟩)
  have BO := Lib.hid (fun (h1 : lo.all inR = true) (h2 : hi.all inR = true) w1 (h : Below w.heap.size w w1) => boundsOf_any lo hi mn mx A B c1 c2 w1 (ha.over h) (hb.over h) h1 h2)
  have BQ := Lib.hid (fun (h1 : lo'.all inR = true) (h2 : hi'.all inR = true) w1 (h : Below w.heap.size w w1) => boundsOf_any lo' hi' mn' mx' A' B' c1' c2' w1 (ha'.over h) (hb'.over h) h1 h2)
  have LT := Lib.hid (show ∀ l : List Int, l.all inR = true → setN l < 18446744073709551616 from fun l h => setN_lt h)
  have hl1 := ha.1
  have hl2 := hb.1
  have hl3 := ha'.1
  have hl4 := hb'.1
  clear ha hb ha' hb' hT
  generalize lo.length = n1 at *
  generalize hi.length = n2 at *
  generalize lo'.length = n1' at *
  generalize hi'.length = n2' at *
  have BA := Lib.hid (show Below w.heap.size w (((w.alloc (.cells #[.slice A n1 c1, .slice B n2 c2, .int .i64 mn, .int .i64 mx] 24)).alloc (.cells #[.slice A' n1' c1', .slice B' n2' c2', .int .i64 mn', .int .i64 mx'] 24)).alloc (.cells #[.slice none 0 0, .slice none 0 0, .int .i64 0, .int .i64 0] 24)) from (((Below.refl _ w).alloc (Nat.le_refl _) _).alloc (by simp) _).alloc (by simp; omega) _)
  have BF := Lib.hid (show famCells (((w.alloc (.cells #[.slice A n1 c1, .slice B n2 c2, .int .i64 mn, .int .i64 mx] 24)).alloc (.cells #[.slice A' n1' c1', .slice B' n2' c2', .int .i64 mn', .int .i64 mx'] 24)).alloc (.cells #[.slice none 0 0, .slice none 0 0, .int .i64 0, .int .i64 0] 24)) (w.heap.size + 1 + 1) from by
    unfold famCells
    rw [show w.heap.size + 1 + 1 = ((w.alloc (.cells #[.slice A n1 c1, .slice B n2 c2, .int .i64 mn, .int .i64 mx] 24)).alloc (.cells #[.slice A' n1' c1', .slice B' n2' c2', .int .i64 mn', .int .i64 mx'] 24)).heap.size by simp]
    exact heap_alloc_new _ _)
  have BX := Lib.hid (show ∀ wx, Below (w.heap.size + 3) (((w.alloc (.cells #[.slice A n1 c1, .slice B n2 c2, .int .i64 mn, .int .i64 mx] 24)).alloc (.cells #[.slice A' n1' c1', .slice B' n2' c2', .int .i64 mn', .int .i64 mx'] 24)).alloc (.cells #[.slice none 0 0, .slice none 0 0, .int .i64 0, .int .i64 0] 24)) wx → wx.cell? ⟨w.heap.size, 0, none⟩ = some (.slice A n1 c1) ∧ wx.cell? ⟨w.heap.size, 1, none⟩ = some (.slice B n2 c2) ∧ wx.cell? ⟨w.heap.size, 2, none⟩ = some (.int .i64 mn) ∧ wx.cell? ⟨w.heap.size, 3, none⟩ = some (.int .i64 mx) ∧ wx.cell? ⟨w.heap.size + 1, 0, none⟩ = some (.slice A' n1' c1') ∧ wx.cell? ⟨w.heap.size + 1, 1, none⟩ = some (.slice B' n2' c2') ∧ wx.cell? ⟨w.heap.size + 1, 2, none⟩ = some (.int .i64 mn') ∧ wx.cell? ⟨w.heap.size + 1, 3, none⟩ = some (.int .i64 mx') from fun wx h => by
    have e2 := Below.alloc (B := w.heap.size + 1 + 1) (Below.refl _ ((w.alloc (.cells #[.slice A n1 c1, .slice B n2 c2, .int .i64 mn, .int .i64 mx] 24)).alloc (.cells #[.slice A' n1' c1', .slice B' n2' c2', .int .i64 mn', .int .i64 mx'] 24))) (by simp) (.cells #[.slice none 0 0, .slice none 0 0, .int .i64 0, .int .i64 0] 24)
    have hh := (h.block w.heap.size (by omega)).trans ((e2.block w.heap.size (by omega)).trans (heap_alloc2_old w (.cells #[.slice A n1 c1, .slice B n2 c2, .int .i64 mn, .int .i64 mx] 24) _))
    have hk := (h.block (w.heap.size + 1) (by omega)).trans ((e2.block (w.heap.size + 1) (by omega)).trans (heap_alloc2_new w _ (.cells #[.slice A' n1' c1', .slice B' n2' c2', .int .i64 mn', .int .i64 mx'] 24)))
    refine ⟨?_, ?_, ?_, ?_, ?_, ?_, ?_, ?_⟩ <;> (simp only [World.cell?, hh, hk]; rfl))
  have SZ := Lib.hid (show ∀ y : World, famCells y (w.heap.size + 1 + 1) → w.heap.size + 3 ≤ y.heap.size from fun y h => by unfold famCells at h; exact (Array.getElem?_eq_some_iff.1 h).1)
  cases hV : validFB lo hi mn mx with
  | false =>
    rw [hV] at VP
    rw [Bool.false_and]
    clear BO BQ VL hV HT SZ VQ LT
    go_enter Tryd.func21, Tryd.ntmps21
    go_wp2_with ((go_at_call 15; refine (VP.out _ BA.out).mono ?_; rintro e y1 ⟨rfl, hb⟩; have H1 := Lib.hid (show Below (w.heap.size + 3) (((w.alloc (.cells #[.slice A n1 c1, .slice B n2 c2, .int .i64 mn, .int .i64 mx] 24)).alloc (.cells #[.slice A' n1' c1', .slice B' n2' c2', .int .i64 mn', .int .i64 mx'] 24)).alloc (.cells #[.slice none 0 0, .slice none 0 0, .int .i64 0, .int .i64 0] 24)) y1 from hb.mono (by simp)); have B1 := Lib.hid (BA.out.trans (hb.mono BA.out.size)); have F1 := Lib.hid (show famCells y1 (w.heap.size + 1 + 1) from (H1.out.block _ (by omega)).trans BF.out); obtain ⟨q0, q1, q2, q3, fz⟩ := famCells_facts F1.out; obtain ⟨x0, x1, x2, x3, x4, x5, x6, x7⟩ := BX.out _ H1.out; clear hb VP))
    clear q0 q1 q2 q3 fz
    have hz0 := heap_setCell_same _ (w.heap.size + 1 + 1) 0 _ _ (.slice none 0 0) F1.out
    have hz1 := heap_setCell_same _ (w.heap.size + 1 + 1) 1 _ _ (.slice none 0 0) hz0
    have hz2 := heap_setCell_same _ (w.heap.size + 1 + 1) 2 _ _ (.int .i64 0) hz1
    have hz3 := heap_setCell_same _ (w.heap.size + 1 + 1) 3 _ _ (.int .i64 0) hz2
    have bz := (((((Below.refl (w.heap.size + 1 + 1) y1).setCell (p := ⟨w.heap.size + 1 + 1, 0, none⟩) (Nat.le_refl _) (.slice none 0 0)).setCell (p := ⟨w.heap.size + 1 + 1, 1, none⟩) (Nat.le_refl _) (.slice none 0 0)).setCell (p := ⟨w.heap.size + 1 + 1, 2, none⟩) (Nat.le_refl _) (.int .i64 0)).setCell (p := ⟨w.heap.size + 1 + 1, 3, none⟩) (Nat.le_refl _) (.int .i64 0))
    have oz : ∀ k, k ≠ w.heap.size + 1 + 1 → ((((y1.setCell ⟨w.heap.size + 1 + 1, 0, none⟩ (.slice none 0 0)).setCell ⟨w.heap.size + 1 + 1, 1, none⟩ (.slice none 0 0)).setCell ⟨w.heap.size + 1 + 1, 2, none⟩ (.int .i64 0)).setCell ⟨w.heap.size + 1 + 1, 3, none⟩ (.int .i64 0)).heap[k]? = y1.heap[k]? := fun k hk => (Below.heap_setCell _ _ _ k hk).trans ((Below.heap_setCell _ _ _ k hk).trans ((Below.heap_setCell _ _ _ k hk).trans (Below.heap_setCell _ _ _ k hk)))
    refine bodyPost_ret (v := .tuple #[.agg #[.slice none 0 0, .slice none 0 0, .int .i64 0, .int .i64 0], .int .i64 2]) (Eq.trans (results_row_tmp (p := 4) (u := 5) rfl _ _ (w.heap.size + 1 + 1) 24 _ (0, 0) _ rfl hz3 Tryd.underlying24 rfl (by kernel_rfl)) rfl) rfl ?_
    unfold MeetRes
    exact ⟨by rw [if_neg Bool.false_ne_true], B1.out.trans (bz.mono (by omega))⟩
  | true =>
    obtain ⟨hr1, hr2⟩ := VL.out _ _ _ _ hV
    rw [hV] at VP
    rw [Bool.true_and]
    clear hV
    cases hV : validFB lo' hi' mn' mx' with
    | false =>
      rw [hV] at VQ
      clear BO BQ VL hV HT LT
      go_enter Tryd.func21, Tryd.ntmps21
      go_wp2_with (first | (go_at_call 15; refine (VP.out _ BA.out).mono ?_; rintro e y1 ⟨rfl, hb⟩; have H1 := Lib.hid (show Below (w.heap.size + 3) (((w.alloc (.cells #[.slice A n1 c1, .slice B n2 c2, .int .i64 mn, .int .i64 mx] 24)).alloc (.cells #[.slice A' n1' c1', .slice B' n2' c2', .int .i64 mn', .int .i64 mx'] 24)).alloc (.cells #[.slice none 0 0, .slice none 0 0, .int .i64 0, .int .i64 0] 24)) y1 from hb.mono (by simp)); have B1 := Lib.hid (BA.out.trans (hb.mono BA.out.size)); have F1 := Lib.hid (show famCells y1 (w.heap.size + 1 + 1) from (H1.out.block _ (by omega)).trans BF.out); obtain ⟨q0, q1, q2, q3, fz⟩ := famCells_facts F1.out; obtain ⟨x0, x1, x2, x3, x4, x5, x6, x7⟩ := BX.out _ H1.out; clear hb VP) | (go_at_call 15; clear q0 q1 q2 q3 fz; refine (VQ.out _ B1.out).mono ?_; rintro e y2 ⟨rfl, hb⟩; have H2 := Lib.hid (show Below (w.heap.size + 3) (((w.alloc (.cells #[.slice A n1 c1, .slice B n2 c2, .int .i64 mn, .int .i64 mx] 24)).alloc (.cells #[.slice A' n1' c1', .slice B' n2' c2', .int .i64 mn', .int .i64 mx'] 24)).alloc (.cells #[.slice none 0 0, .slice none 0 0, .int .i64 0, .int .i64 0] 24)) y2 from H1.out.trans (hb.mono (SZ.out _ F1.out))); have B2 := Lib.hid (B1.out.trans (hb.mono B1.out.size)); have F2 := Lib.hid (show famCells y2 (w.heap.size + 1 + 1) from (H2.out.block _ (by omega)).trans BF.out); obtain ⟨q0, q1, q2, q3, fz⟩ := famCells_facts F2.out; clear x0 x1 x2 x3 x4 x5 x6 x7; obtain ⟨x0, x1, x2, x3, x4, x5, x6, x7⟩ := BX.out _ H2.out; clear hb VQ))
      clear q0 q1 q2 q3 fz
      have hz0 := heap_setCell_same _ (w.heap.size + 1 + 1) 0 _ _ (.slice none 0 0) F2.out
      have hz1 := heap_setCell_same _ (w.heap.size + 1 + 1) 1 _ _ (.slice none 0 0) hz0
      have hz2 := heap_setCell_same _ (w.heap.size + 1 + 1) 2 _ _ (.int .i64 0) hz1
      have hz3 := heap_setCell_same _ (w.heap.size + 1 + 1) 3 _ _ (.int .i64 0) hz2
      have bz := (((((Below.refl (w.heap.size + 1 + 1) y2).setCell (p := ⟨w.heap.size + 1 + 1, 0, none⟩) (Nat.le_refl _) (.slice none 0 0)).setCell (p := ⟨w.heap.size + 1 + 1, 1, none⟩) (Nat.le_refl _) (.slice none 0 0)).setCell (p := ⟨w.heap.size + 1 + 1, 2, none⟩) (Nat.le_refl _) (.int .i64 0)).setCell (p := ⟨w.heap.size + 1 + 1, 3, none⟩) (Nat.le_refl _) (.int .i64 0))
      have oz : ∀ k, k ≠ w.heap.size + 1 + 1 → ((((y2.setCell ⟨w.heap.size + 1 + 1, 0, none⟩ (.slice none 0 0)).setCell ⟨w.heap.size + 1 + 1, 1, none⟩ (.slice none 0 0)).setCell ⟨w.heap.size + 1 + 1, 2, none⟩ (.int .i64 0)).setCell ⟨w.heap.size + 1 + 1, 3, none⟩ (.int .i64 0)).heap[k]? = y2.heap[k]? := fun k hk => (Below.heap_setCell _ _ _ k hk).trans ((Below.heap_setCell _ _ _ k hk).trans ((Below.heap_setCell _ _ _ k hk).trans (Below.heap_setCell _ _ _ k hk)))
      refine bodyPost_ret (v := .tuple #[.agg #[.slice none 0 0, .slice none 0 0, .int .i64 0, .int .i64 0], .int .i64 2]) (Eq.trans (results_row_tmp (p := 4) (u := 5) rfl _ _ (w.heap.size + 1 + 1) 24 _ (0, 0) _ rfl hz3 Tryd.underlying24 rfl (by kernel_rfl)) rfl) rfl ?_
      unfold MeetRes
      exact ⟨by rw [if_neg Bool.false_ne_true], B2.out.trans (bz.mono (by omega))⟩
    | true =>
      obtain ⟨hr3, hr4⟩ := VL.out _ _ _ _ hV
      rw [hV] at VQ
      have BO := Lib.hid (BO.out hr1 hr2)
      have BQ := Lib.hid (BQ.out hr3 hr4)
      have hL1 := Lib.hid (LT.out _ hr1)
      have hL2 := Lib.hid (LT.out _ hr2)
      have HLT := Lib.hid (LT.out _ hr2)
      have hL3 := Lib.hid (LT.out _ hr3)
      have hL4 := Lib.hid (LT.out _ hr4)
      clear VL hV hr1 hr2 hr3 hr4 LT
      generalize setN lo = L at *
      generalize setN hi = H at *
      generalize setN lo' = L' at *
      generalize setN hi' = H' at *
      go_enter Tryd.func21, Tryd.ntmps21
      go_wp2_with (first | (go_at_call 15; refine (VP.out _ BA.out).mono ?_; rintro e y1 ⟨rfl, hb⟩; have H1 := Lib.hid (show Below (w.heap.size + 3) (((w.alloc (.cells #[.slice A n1 c1, .slice B n2 c2, .int .i64 mn, .int .i64 mx] 24)).alloc (.cells #[.slice A' n1' c1', .slice B' n2' c2', .int .i64 mn', .int .i64 mx'] 24)).alloc (.cells #[.slice none 0 0, .slice none 0 0, .int .i64 0, .int .i64 0] 24)) y1 from hb.mono (by simp)); have B1 := Lib.hid (BA.out.trans (hb.mono BA.out.size)); have F1 := Lib.hid (show famCells y1 (w.heap.size + 1 + 1) from (H1.out.block _ (by omega)).trans BF.out); obtain ⟨q0, q1, q2, q3, fz⟩ := famCells_facts F1.out; obtain ⟨x0, x1, x2, x3, x4, x5, x6, x7⟩ := BX.out _ H1.out; clear hb VP) | (go_at_call 15; clear q0 q1 q2 q3 fz; refine (VQ.out _ B1.out).mono ?_; rintro e y2 ⟨rfl, hb⟩; have H2 := Lib.hid (show Below (w.heap.size + 3) (((w.alloc (.cells #[.slice A n1 c1, .slice B n2 c2, .int .i64 mn, .int .i64 mx] 24)).alloc (.cells #[.slice A' n1' c1', .slice B' n2' c2', .int .i64 mn', .int .i64 mx'] 24)).alloc (.cells #[.slice none 0 0, .slice none 0 0, .int .i64 0, .int .i64 0] 24)) y2 from H1.out.trans (hb.mono (SZ.out _ F1.out))); have B2 := Lib.hid (B1.out.trans (hb.mono B1.out.size)); have F2 := Lib.hid (show famCells y2 (w.heap.size + 1 + 1) from (H2.out.block _ (by omega)).trans BF.out); obtain ⟨q0, q1, q2, q3, fz⟩ := famCells_facts F2.out; clear x0 x1 x2 x3 x4 x5 x6 x7; obtain ⟨x0, x1, x2, x3, x4, x5, x6, x7⟩ := BX.out _ H2.out; clear hb VQ))
      clear q0 q1 q2 q3 fz H1 B1 F1
      have S0 : (fun (wx : World) => wx.cell? ⟨w.heap.size, 0, none⟩ = some (.slice A n1 c1) ∧ wx.cell? ⟨w.heap.size, 1, none⟩ = some (.slice B n2 c2) ∧ wx.cell? ⟨w.heap.size, 2, none⟩ = some (.int .i64 mn) ∧ wx.cell? ⟨w.heap.size, 3, none⟩ = some (.int .i64 mx) ∧ wx.cell? ⟨w.heap.size + 1, 0, none⟩ = some (.slice A' n1' c1') ∧ wx.cell? ⟨w.heap.size + 1, 1, none⟩ = some (.slice B' n2' c2') ∧ wx.cell? ⟨w.heap.size + 1, 2, none⟩ = some (.int .i64 mn') ∧ wx.cell? ⟨w.heap.size + 1, 3, none⟩ = some (.int .i64 mx')) y2.drew := BX.out _ H2.out.drew
      have hs2 := SZ.out _ F2.out
      have LY := Lib.hid (show Lay (w.heap.size + 3) y2 none none y2.drew from ⟨(Below.refl _ _).drew, hs2, (fun _ h => by cases h), (fun _ h => by cases h), (fun _ _ h _ => by cases h)⟩)
      go_cut [6, 7] from 17 to 20 (fun s6 s7 wx => ∃ g6 g7 : Nat, s6 = .pointer (some ⟨g6, 0, none⟩) ∧ s7 = .pointer (some ⟨g7, 0, none⟩) ∧ TwoBd w.heap.size L H mn mx L' H' mn' mx' g6 g7 wx ∧ Below (w.heap.size + 3) y2 wx)
      case first =>
        refine wp_region_held_drew (S := fun (wx : World) => wx.cell? ⟨w.heap.size, 0, none⟩ = some (.slice A n1 c1) ∧ wx.cell? ⟨w.heap.size, 1, none⟩ = some (.slice B n2 c2) ∧ wx.cell? ⟨w.heap.size, 2, none⟩ = some (.int .i64 mn) ∧ wx.cell? ⟨w.heap.size, 3, none⟩ = some (.int .i64 mx) ∧ wx.cell? ⟨w.heap.size + 1, 0, none⟩ = some (.slice A' n1' c1') ∧ wx.cell? ⟨w.heap.size + 1, 1, none⟩ = some (.slice B' n2' c2') ∧ wx.cell? ⟨w.heap.size + 1, 2, none⟩ = some (.int .i64 mn') ∧ wx.cell? ⟨w.heap.size + 1, 3, none⟩ = some (.int .i64 mx')) (by kernel_rfl) S0 (fun hHeld => ?_)
        clear x0 x1 x2 x3 x4 x5 x6 x7
        generalize hV0 : y2.drew = V at *
        refine wpAnyH_take (i := 0) (oi := { dst := some 17, op := Op.load 24 (Operand.tmp 2), type := 24, pos := "family.go:55", after := #[], guard := none }) (v := ?vn1k0) rfl (by kernel_rfl) (by kernel_rfl) (by kernel_rfl) (fun _ _ _ h => h) (Or.inl ⟨by kernel_rfl, ?yn1k0⟩) (by assumption) ?rn1k0
        case yn1k0 => intro w hSw; (try dsimp only at hSw); go_simp; try with_reducible rfl
        try simp only [Act.put, List.setIfInBounds_toArray, List.set_cons_zero, List.set_cons_succ]
        refine wpAnyH_take (i := 2) (oi := { dst := some 19, op := Op.load 24 (Operand.tmp 3), type := 24, pos := "family.go:55", after := #[], guard := none }) (v := ?vn2k2) rfl (by kernel_rfl) (by kernel_rfl) (by kernel_rfl) (fun _ _ _ h => h) (Or.inl ⟨by kernel_rfl, ?yn2k2⟩) (by assumption) ?rn2k2
        case yn2k2 => intro w hSw; (try dsimp only at hSw); go_simp; try with_reducible rfl
        try simp only [Act.put, List.setIfInBounds_toArray, List.set_cons_zero, List.set_cons_succ]
        refine wpAnyH_ready (rs := [1, 4, 5]) (by kernel_rfl) (by simp) (AllReadyH.cons (o := { dst := some 18, op := Op.call { callee := Callee.value (Operand.func 31), args := #[Operand.tmp 17], argTypes := #[24] }, type := 53, pos := "family.go:55", after := #[{ on := 0, ground := Ground.data }], guard := none }) rfl (fun K hK => ?_) (AllReadyH.cons (o := { dst := some 6, op := Op.alloc 53, type := 0, pos := "family.go:55", after := #[], guard := none }) rfl (fun K hK => ?_) (AllReadyH.cons (o := { dst := some 7, op := Op.alloc 53, type := 0, pos := "family.go:55", after := #[], guard := none }) rfl (fun K hK => ?_) (AllReadyH.nil))))
        · go_simp
          refine ((BO).out _ (B2.out.trans (LY.out.1.mono (by omega)))).mono ?_
          rintro e V1 ⟨rfl, hb⟩
          have LY := Lib.hid (LY.out.call hb)
          clear hb hHeld
          refine hK.out _ _ (BX.out _ (H2.out.trans LY.out.1)) (fun hHeld => ?_)
          clear hK K
          try simp only [Act.put, List.setIfInBounds_toArray, List.set_cons_zero, List.set_cons_succ]
          refine wpAnyH_ready (rs := [3, 4, 5]) (by kernel_rfl) (by simp) (AllReadyH.cons (o := { dst := some 20, op := Op.call { callee := Callee.value (Operand.func 31), args := #[Operand.tmp 19], argTypes := #[24] }, type := 53, pos := "family.go:55", after := #[{ on := 2, ground := Ground.data }, { on := 1, ground := Ground.chain }], guard := none }) rfl (fun K hK => ?_) (AllReadyH.cons (o := { dst := some 6, op := Op.alloc 53, type := 0, pos := "family.go:55", after := #[], guard := none }) rfl (fun K hK => ?_) (AllReadyH.cons (o := { dst := some 7, op := Op.alloc 53, type := 0, pos := "family.go:55", after := #[], guard := none }) rfl (fun K hK => ?_) (AllReadyH.nil))))
          · go_simp
            refine ((BQ).out _ (B2.out.trans (LY.out.1.mono (by omega)))).mono ?_
            rintro e V2 ⟨rfl, hb⟩
            have LY := Lib.hid (LY.out.call hb)
            clear hb hHeld
            refine hK.out _ _ (BX.out _ (H2.out.trans LY.out.1)) (fun hHeld => ?_)
            clear hK K
            try simp only [Act.put, List.setIfInBounds_toArray, List.set_cons_zero, List.set_cons_succ]
            refine wpAnyH_ready (rs := [4, 5]) (by kernel_rfl) (by simp) (AllReadyH.cons (o := { dst := some 6, op := Op.alloc 53, type := 0, pos := "family.go:55", after := #[], guard := none }) rfl (fun K hK => ?_) (AllReadyH.cons (o := { dst := some 7, op := Op.alloc 53, type := 0, pos := "family.go:55", after := #[], guard := none }) rfl (fun K hK => ?_) (AllReadyH.nil)))
            · go_simp
              have LY := Lib.hid (LY.out.alloc6)
              clear hHeld
              refine hK.out _ _ (BX.out _ (H2.out.trans LY.out.1)) (fun hHeld => ?_)
              clear hK K
              try simp only [Act.put, List.setIfInBounds_toArray, List.set_cons_zero, List.set_cons_succ]
              generalize V2.alloc (.cells #[.int .u64 0, .int .u64 0, .int .i64 0, .int .i64 0] 53) = V3 at *
              generalize V2.heap.size = g6 at *
              refine wpAnyH_ready (rs := [5]) (by kernel_rfl) (by simp) (AllReadyH.cons (o := { dst := some 7, op := Op.alloc 53, type := 0, pos := "family.go:55", after := #[], guard := none }) rfl (fun K hK => ?_) (AllReadyH.nil))
              · go_simp
                have LY := Lib.hid (LY.out.alloc7)
                clear hHeld
                refine hK.out _ _ (BX.out _ (H2.out.trans LY.out.1)) (fun hHeld => ?_)
                clear hK K
                try simp only [Act.put, List.setIfInBounds_toArray, List.set_cons_zero, List.set_cons_succ]
                generalize V3.alloc (.cells #[.int .u64 0, .int .u64 0, .int .i64 0, .int .i64 0] 53) = V4 at *
                generalize V3.heap.size = g7 at *
                obtain ⟨_, hs3, a6, a7, ne⟩ := LY.out
                obtain ⟨b6, l6, e6⟩ := a6 _ rfl
                obtain ⟨b7, l7, e7⟩ := a7 _ rfl
                have ne := Lib.hid (ne _ _ rfl rfl)
                clear a6 a7
                obtain ⟨q60, q61, q62, q63, fz6⟩ := zb_facts e6
                have p6 := put4 e6 L H mn mx
                have P6 := Lib.hid p6.1
                have O6 := Lib.hid p6.2
                have E7 := Lib.hid e7
                clear p6 e6 e7
                refine wpAnyH_ready (rs := [6]) (by kernel_rfl) (by simp) (AllReadyH.cons (o := { dst := none, op := Op.store 53 (Operand.tmp 6) (Operand.tmp 18), type := 0, pos := "family.go:55", after := #[{ on := 4, ground := Ground.data }, { on := 1, ground := Ground.data }, { on := 3, ground := Ground.chain }, { on := 0, ground := Ground.phase }, { on := 1, ground := Ground.phase }, { on := 2, ground := Ground.textOnly Departure.lateStores }, { on := 3, ground := Ground.phase }, { on := 4, ground := Ground.phase }, { on := 5, ground := Ground.phase }], guard := none }) rfl (fun K hK => ?_) AllReadyH.nil)
                go_simp
                clear hHeld q60 q61 q62 q63 fz6
                refine hK.out _ _ (BX.out _ (H2.out.trans (LY.out.1.trans (O6.out.1.mono b6)))) (fun hHeld => ?_)
                clear hK K
                try simp only [Act.put, List.setIfInBounds_toArray, List.set_cons_zero, List.set_cons_succ]
                generalize ((((V4.setCell ⟨g6, 0, none⟩ (.int .u64 (L : Nat))).setCell ⟨g6, 1, none⟩ (.int .u64 (H : Nat))).setCell ⟨g6, 2, none⟩ (.int .i64 mn)).setCell ⟨g6, 3, none⟩ (.int .i64 mx)) = S6 at *
                have e7 := (O6.out.2 g7 (Ne.symm ne.out)).trans E7.out
                obtain ⟨q70, q71, q72, q73, fz7⟩ := zb_facts e7
                have p7 := put4 e7 L' H' mn' mx'
                have P7 := Lib.hid p7.1
                have O7 := Lib.hid p7.2
                clear p7 e7
                refine wpAnyH_ready (rs := [7]) (by kernel_rfl) (by simp) (AllReadyH.cons (o := { dst := none, op := Op.store 53 (Operand.tmp 7) (Operand.tmp 20), type := 0, pos := "family.go:55", after := #[{ on := 5, ground := Ground.data }, { on := 3, ground := Ground.data }, { on := 6, ground := Ground.chain }, { on := 0, ground := Ground.phase }, { on := 1, ground := Ground.phase }, { on := 2, ground := Ground.phase }, { on := 3, ground := Ground.phase }, { on := 4, ground := Ground.phase }, { on := 5, ground := Ground.phase }, { on := 6, ground := Ground.phase }], guard := none }) rfl (fun K hK => ?_) AllReadyH.nil)
                go_simp
                clear hHeld q70 q71 q72 q73 fz7
                refine hK.out _ _ (BX.out _ (H2.out.trans (LY.out.1.trans ((O6.out.1.mono b6).trans (O7.out.1.mono b7))))) (fun hHeld => ?_)
                clear hK K hHeld
                try simp only [Act.put, List.setIfInBounds_toArray, List.set_cons_zero, List.set_cons_succ]
                generalize ((((S6.setCell ⟨g7, 0, none⟩ (.int .u64 (L' : Nat))).setCell ⟨g7, 1, none⟩ (.int .u64 (H' : Nat))).setCell ⟨g7, 2, none⟩ (.int .i64 mn')).setCell ⟨g7, 3, none⟩ (.int .i64 mx')) = S7 at *
                refine wpAnyH_done (by kernel_rfl) ?_ _
                go_wp2_with fail
                go_meet
                exact ⟨g6, g7, rfl, rfl, ⟨ne.out, b6, b7, (O7.out.2 g6 ne.out).trans P6.out, P7.out⟩, LY.out.1.trans ((O6.out.1.mono b6).trans (O7.out.1.mono b7))⟩
            · go_simp
              have LY := Lib.hid (LY.out.alloc7)
              clear hHeld
              refine hK.out _ _ (BX.out _ (H2.out.trans LY.out.1)) (fun hHeld => ?_)
              clear hK K
              try simp only [Act.put, List.setIfInBounds_toArray, List.set_cons_zero, List.set_cons_succ]
              generalize V2.alloc (.cells #[.int .u64 0, .int .u64 0, .int .i64 0, .int .i64 0] 53) = V5 at *
              generalize V2.heap.size = g7 at *
              refine wpAnyH_ready (rs := [4]) (by kernel_rfl) (by simp) (AllReadyH.cons (o := { dst := some 6, op := Op.alloc 53, type := 0, pos := "family.go:55", after := #[], guard := none }) rfl (fun K hK => ?_) (AllReadyH.nil))
              · go_simp
                have LY := Lib.hid (LY.out.alloc6)
                clear hHeld
                refine hK.out _ _ (BX.out _ (H2.out.trans LY.out.1)) (fun hHeld => ?_)
                clear hK K
                try simp only [Act.put, List.setIfInBounds_toArray, List.set_cons_zero, List.set_cons_succ]
                generalize V5.alloc (.cells #[.int .u64 0, .int .u64 0, .int .i64 0, .int .i64 0] 53) = V6 at *
                generalize V5.heap.size = g6 at *
                obtain ⟨_, hs3, a6, a7, ne⟩ := LY.out
                obtain ⟨b6, l6, e6⟩ := a6 _ rfl
                obtain ⟨b7, l7, e7⟩ := a7 _ rfl
                have ne := Lib.hid (ne _ _ rfl rfl)
                clear a6 a7
                obtain ⟨q60, q61, q62, q63, fz6⟩ := zb_facts e6
                have p6 := put4 e6 L H mn mx
                have P6 := Lib.hid p6.1
                have O6 := Lib.hid p6.2
                have E7 := Lib.hid e7
                clear p6 e6 e7
                refine wpAnyH_ready (rs := [6]) (by kernel_rfl) (by simp) (AllReadyH.cons (o := { dst := none, op := Op.store 53 (Operand.tmp 6) (Operand.tmp 18), type := 0, pos := "family.go:55", after := #[{ on := 4, ground := Ground.data }, { on := 1, ground := Ground.data }, { on := 3, ground := Ground.chain }, { on := 0, ground := Ground.phase }, { on := 1, ground := Ground.phase }, { on := 2, ground := Ground.textOnly Departure.lateStores }, { on := 3, ground := Ground.phase }, { on := 4, ground := Ground.phase }, { on := 5, ground := Ground.phase }], guard := none }) rfl (fun K hK => ?_) AllReadyH.nil)
                go_simp
                clear hHeld q60 q61 q62 q63 fz6
                refine hK.out _ _ (BX.out _ (H2.out.trans (LY.out.1.trans (O6.out.1.mono b6)))) (fun hHeld => ?_)
                clear hK K
                try simp only [Act.put, List.setIfInBounds_toArray, List.set_cons_zero, List.set_cons_succ]
                generalize ((((V6.setCell ⟨g6, 0, none⟩ (.int .u64 (L : Nat))).setCell ⟨g6, 1, none⟩ (.int .u64 (H : Nat))).setCell ⟨g6, 2, none⟩ (.int .i64 mn)).setCell ⟨g6, 3, none⟩ (.int .i64 mx)) = S6 at *
                have e7 := (O6.out.2 g7 (Ne.symm ne.out)).trans E7.out
                obtain ⟨q70, q71, q72, q73, fz7⟩ := zb_facts e7
                have p7 := put4 e7 L' H' mn' mx'
                have P7 := Lib.hid p7.1
                have O7 := Lib.hid p7.2
                clear p7 e7
                refine wpAnyH_ready (rs := [7]) (by kernel_rfl) (by simp) (AllReadyH.cons (o := { dst := none, op := Op.store 53 (Operand.tmp 7) (Operand.tmp 20), type := 0, pos := "family.go:55", after := #[{ on := 5, ground := Ground.data }, { on := 3, ground := Ground.data }, { on := 6, ground := Ground.chain }, { on := 0, ground := Ground.phase }, { on := 1, ground := Ground.phase }, { on := 2, ground := Ground.phase }, { on := 3, ground := Ground.phase }, { on := 4, ground := Ground.phase }, { on := 5, ground := Ground.phase }, { on := 6, ground := Ground.phase }], guard := none }) rfl (fun K hK => ?_) AllReadyH.nil)
                go_simp
                clear hHeld q70 q71 q72 q73 fz7
                refine hK.out _ _ (BX.out _ (H2.out.trans (LY.out.1.trans ((O6.out.1.mono b6).trans (O7.out.1.mono b7))))) (fun hHeld => ?_)
                clear hK K hHeld
                try simp only [Act.put, List.setIfInBounds_toArray, List.set_cons_zero, List.set_cons_succ]
                generalize ((((S6.setCell ⟨g7, 0, none⟩ (.int .u64 (L' : Nat))).setCell ⟨g7, 1, none⟩ (.int .u64 (H' : Nat))).setCell ⟨g7, 2, none⟩ (.int .i64 mn')).setCell ⟨g7, 3, none⟩ (.int .i64 mx')) = S7 at *
                refine wpAnyH_done (by kernel_rfl) ?_ _
                go_wp2_with fail
                go_meet
                exact ⟨g6, g7, rfl, rfl, ⟨ne.out, b6, b7, (O7.out.2 g6 ne.out).trans P6.out, P7.out⟩, LY.out.1.trans ((O6.out.1.mono b6).trans (O7.out.1.mono b7))⟩
          · go_simp
            have LY := Lib.hid (LY.out.alloc6)
            clear hHeld
            refine hK.out _ _ (BX.out _ (H2.out.trans LY.out.1)) (fun hHeld => ?_)
            clear hK K
            try simp only [Act.put, List.setIfInBounds_toArray, List.set_cons_zero, List.set_cons_succ]
            generalize V1.alloc (.cells #[.int .u64 0, .int .u64 0, .int .i64 0, .int .i64 0] 53) = V7 at *
            generalize V1.heap.size = g6 at *
            refine wpAnyH_ready (rs := [3, 5]) (by kernel_rfl) (by simp) (AllReadyH.cons (o := { dst := some 20, op := Op.call { callee := Callee.value (Operand.func 31), args := #[Operand.tmp 19], argTypes := #[24] }, type := 53, pos := "family.go:55", after := #[{ on := 2, ground := Ground.data }, { on := 1, ground := Ground.chain }], guard := none }) rfl (fun K hK => ?_) (AllReadyH.cons (o := { dst := some 7, op := Op.alloc 53, type := 0, pos := "family.go:55", after := #[], guard := none }) rfl (fun K hK => ?_) (AllReadyH.nil)))
            · go_simp
              refine ((BQ).out _ (B2.out.trans (LY.out.1.mono (by omega)))).mono ?_
              rintro e V8 ⟨rfl, hb⟩
              have LY := Lib.hid (LY.out.call hb)
              clear hb hHeld
              refine hK.out _ _ (BX.out _ (H2.out.trans LY.out.1)) (fun hHeld => ?_)
              clear hK K
              try simp only [Act.put, List.setIfInBounds_toArray, List.set_cons_zero, List.set_cons_succ]
              refine wpAnyH_ready (rs := [5]) (by kernel_rfl) (by simp) (AllReadyH.cons (o := { dst := some 7, op := Op.alloc 53, type := 0, pos := "family.go:55", after := #[], guard := none }) rfl (fun K hK => ?_) (AllReadyH.nil))
              · go_simp
                have LY := Lib.hid (LY.out.alloc7)
                clear hHeld
                refine hK.out _ _ (BX.out _ (H2.out.trans LY.out.1)) (fun hHeld => ?_)
                clear hK K
                try simp only [Act.put, List.setIfInBounds_toArray, List.set_cons_zero, List.set_cons_succ]
                generalize V8.alloc (.cells #[.int .u64 0, .int .u64 0, .int .i64 0, .int .i64 0] 53) = V9 at *
                generalize V8.heap.size = g7 at *
                obtain ⟨_, hs3, a6, a7, ne⟩ := LY.out
                obtain ⟨b6, l6, e6⟩ := a6 _ rfl
                obtain ⟨b7, l7, e7⟩ := a7 _ rfl
                have ne := Lib.hid (ne _ _ rfl rfl)
                clear a6 a7
                obtain ⟨q60, q61, q62, q63, fz6⟩ := zb_facts e6
                have p6 := put4 e6 L H mn mx
                have P6 := Lib.hid p6.1
                have O6 := Lib.hid p6.2
                have E7 := Lib.hid e7
                clear p6 e6 e7
                refine wpAnyH_ready (rs := [6]) (by kernel_rfl) (by simp) (AllReadyH.cons (o := { dst := none, op := Op.store 53 (Operand.tmp 6) (Operand.tmp 18), type := 0, pos := "family.go:55", after := #[{ on := 4, ground := Ground.data }, { on := 1, ground := Ground.data }, { on := 3, ground := Ground.chain }, { on := 0, ground := Ground.phase }, { on := 1, ground := Ground.phase }, { on := 2, ground := Ground.textOnly Departure.lateStores }, { on := 3, ground := Ground.phase }, { on := 4, ground := Ground.phase }, { on := 5, ground := Ground.phase }], guard := none }) rfl (fun K hK => ?_) AllReadyH.nil)
                go_simp
                clear hHeld q60 q61 q62 q63 fz6
                refine hK.out _ _ (BX.out _ (H2.out.trans (LY.out.1.trans (O6.out.1.mono b6)))) (fun hHeld => ?_)
                clear hK K
                try simp only [Act.put, List.setIfInBounds_toArray, List.set_cons_zero, List.set_cons_succ]
                generalize ((((V9.setCell ⟨g6, 0, none⟩ (.int .u64 (L : Nat))).setCell ⟨g6, 1, none⟩ (.int .u64 (H : Nat))).setCell ⟨g6, 2, none⟩ (.int .i64 mn)).setCell ⟨g6, 3, none⟩ (.int .i64 mx)) = S6 at *
                have e7 := (O6.out.2 g7 (Ne.symm ne.out)).trans E7.out
                obtain ⟨q70, q71, q72, q73, fz7⟩ := zb_facts e7
                have p7 := put4 e7 L' H' mn' mx'
                have P7 := Lib.hid p7.1
                have O7 := Lib.hid p7.2
                clear p7 e7
                refine wpAnyH_ready (rs := [7]) (by kernel_rfl) (by simp) (AllReadyH.cons (o := { dst := none, op := Op.store 53 (Operand.tmp 7) (Operand.tmp 20), type := 0, pos := "family.go:55", after := #[{ on := 5, ground := Ground.data }, { on := 3, ground := Ground.data }, { on := 6, ground := Ground.chain }, { on := 0, ground := Ground.phase }, { on := 1, ground := Ground.phase }, { on := 2, ground := Ground.phase }, { on := 3, ground := Ground.phase }, { on := 4, ground := Ground.phase }, { on := 5, ground := Ground.phase }, { on := 6, ground := Ground.phase }], guard := none }) rfl (fun K hK => ?_) AllReadyH.nil)
                go_simp
                clear hHeld q70 q71 q72 q73 fz7
                refine hK.out _ _ (BX.out _ (H2.out.trans (LY.out.1.trans ((O6.out.1.mono b6).trans (O7.out.1.mono b7))))) (fun hHeld => ?_)
                clear hK K hHeld
                try simp only [Act.put, List.setIfInBounds_toArray, List.set_cons_zero, List.set_cons_succ]
                generalize ((((S6.setCell ⟨g7, 0, none⟩ (.int .u64 (L' : Nat))).setCell ⟨g7, 1, none⟩ (.int .u64 (H' : Nat))).setCell ⟨g7, 2, none⟩ (.int .i64 mn')).setCell ⟨g7, 3, none⟩ (.int .i64 mx')) = S7 at *
                refine wpAnyH_done (by kernel_rfl) ?_ _
                go_wp2_with fail
                go_meet
                exact ⟨g6, g7, rfl, rfl, ⟨ne.out, b6, b7, (O7.out.2 g6 ne.out).trans P6.out, P7.out⟩, LY.out.1.trans ((O6.out.1.mono b6).trans (O7.out.1.mono b7))⟩
            · go_simp
              have LY := Lib.hid (LY.out.alloc7)
              clear hHeld
              refine hK.out _ _ (BX.out _ (H2.out.trans LY.out.1)) (fun hHeld => ?_)
              clear hK K
              try simp only [Act.put, List.setIfInBounds_toArray, List.set_cons_zero, List.set_cons_succ]
              generalize V7.alloc (.cells #[.int .u64 0, .int .u64 0, .int .i64 0, .int .i64 0] 53) = V10 at *
              generalize V7.heap.size = g7 at *
              refine wpAnyH_ready (rs := [3]) (by kernel_rfl) (by simp) (AllReadyH.cons (o := { dst := some 20, op := Op.call { callee := Callee.value (Operand.func 31), args := #[Operand.tmp 19], argTypes := #[24] }, type := 53, pos := "family.go:55", after := #[{ on := 2, ground := Ground.data }, { on := 1, ground := Ground.chain }], guard := none }) rfl (fun K hK => ?_) (AllReadyH.nil))
              · go_simp
                refine ((BQ).out _ (B2.out.trans (LY.out.1.mono (by omega)))).mono ?_
                rintro e V11 ⟨rfl, hb⟩
                have LY := Lib.hid (LY.out.call hb)
                clear hb hHeld
                refine hK.out _ _ (BX.out _ (H2.out.trans LY.out.1)) (fun hHeld => ?_)
                clear hK K
                try simp only [Act.put, List.setIfInBounds_toArray, List.set_cons_zero, List.set_cons_succ]
                obtain ⟨_, hs3, a6, a7, ne⟩ := LY.out
                obtain ⟨b6, l6, e6⟩ := a6 _ rfl
                obtain ⟨b7, l7, e7⟩ := a7 _ rfl
                have ne := Lib.hid (ne _ _ rfl rfl)
                clear a6 a7
                obtain ⟨q60, q61, q62, q63, fz6⟩ := zb_facts e6
                have p6 := put4 e6 L H mn mx
                have P6 := Lib.hid p6.1
                have O6 := Lib.hid p6.2
                have E7 := Lib.hid e7
                clear p6 e6 e7
                refine wpAnyH_ready (rs := [6]) (by kernel_rfl) (by simp) (AllReadyH.cons (o := { dst := none, op := Op.store 53 (Operand.tmp 6) (Operand.tmp 18), type := 0, pos := "family.go:55", after := #[{ on := 4, ground := Ground.data }, { on := 1, ground := Ground.data }, { on := 3, ground := Ground.chain }, { on := 0, ground := Ground.phase }, { on := 1, ground := Ground.phase }, { on := 2, ground := Ground.textOnly Departure.lateStores }, { on := 3, ground := Ground.phase }, { on := 4, ground := Ground.phase }, { on := 5, ground := Ground.phase }], guard := none }) rfl (fun K hK => ?_) AllReadyH.nil)
                go_simp
                clear hHeld q60 q61 q62 q63 fz6
                refine hK.out _ _ (BX.out _ (H2.out.trans (LY.out.1.trans (O6.out.1.mono b6)))) (fun hHeld => ?_)
                clear hK K
                try simp only [Act.put, List.setIfInBounds_toArray, List.set_cons_zero, List.set_cons_succ]
                generalize ((((V11.setCell ⟨g6, 0, none⟩ (.int .u64 (L : Nat))).setCell ⟨g6, 1, none⟩ (.int .u64 (H : Nat))).setCell ⟨g6, 2, none⟩ (.int .i64 mn)).setCell ⟨g6, 3, none⟩ (.int .i64 mx)) = S6 at *
                have e7 := (O6.out.2 g7 (Ne.symm ne.out)).trans E7.out
                obtain ⟨q70, q71, q72, q73, fz7⟩ := zb_facts e7
                have p7 := put4 e7 L' H' mn' mx'
                have P7 := Lib.hid p7.1
                have O7 := Lib.hid p7.2
                clear p7 e7
                refine wpAnyH_ready (rs := [7]) (by kernel_rfl) (by simp) (AllReadyH.cons (o := { dst := none, op := Op.store 53 (Operand.tmp 7) (Operand.tmp 20), type := 0, pos := "family.go:55", after := #[{ on := 5, ground := Ground.data }, { on := 3, ground := Ground.data }, { on := 6, ground := Ground.chain }, { on := 0, ground := Ground.phase }, { on := 1, ground := Ground.phase }, { on := 2, ground := Ground.phase }, { on := 3, ground := Ground.phase }, { on := 4, ground := Ground.phase }, { on := 5, ground := Ground.phase }, { on := 6, ground := Ground.phase }], guard := none }) rfl (fun K hK => ?_) AllReadyH.nil)
                go_simp
                clear hHeld q70 q71 q72 q73 fz7
                refine hK.out _ _ (BX.out _ (H2.out.trans (LY.out.1.trans ((O6.out.1.mono b6).trans (O7.out.1.mono b7))))) (fun hHeld => ?_)
                clear hK K hHeld
                try simp only [Act.put, List.setIfInBounds_toArray, List.set_cons_zero, List.set_cons_succ]
                generalize ((((S6.setCell ⟨g7, 0, none⟩ (.int .u64 (L' : Nat))).setCell ⟨g7, 1, none⟩ (.int .u64 (H' : Nat))).setCell ⟨g7, 2, none⟩ (.int .i64 mn')).setCell ⟨g7, 3, none⟩ (.int .i64 mx')) = S7 at *
                refine wpAnyH_done (by kernel_rfl) ?_ _
                go_wp2_with fail
                go_meet
                exact ⟨g6, g7, rfl, rfl, ⟨ne.out, b6, b7, (O7.out.2 g6 ne.out).trans P6.out, P7.out⟩, LY.out.1.trans ((O6.out.1.mono b6).trans (O7.out.1.mono b7))⟩
          · go_simp
            have LY := Lib.hid (LY.out.alloc7)
            clear hHeld
            refine hK.out _ _ (BX.out _ (H2.out.trans LY.out.1)) (fun hHeld => ?_)
            clear hK K
            try simp only [Act.put, List.setIfInBounds_toArray, List.set_cons_zero, List.set_cons_succ]
            generalize V1.alloc (.cells #[.int .u64 0, .int .u64 0, .int .i64 0, .int .i64 0] 53) = V12 at *
            generalize V1.heap.size = g7 at *
            refine wpAnyH_ready (rs := [3, 4]) (by kernel_rfl) (by simp) (AllReadyH.cons (o := { dst := some 20, op := Op.call { callee := Callee.value (Operand.func 31), args := #[Operand.tmp 19], argTypes := #[24] }, type := 53, pos := "family.go:55", after := #[{ on := 2, ground := Ground.data }, { on := 1, ground := Ground.chain }], guard := none }) rfl (fun K hK => ?_) (AllReadyH.cons (o := { dst := some 6, op := Op.alloc 53, type := 0, pos := "family.go:55", after := #[], guard := none }) rfl (fun K hK => ?_) (AllReadyH.nil)))
            · go_simp
              refine ((BQ).out _ (B2.out.trans (LY.out.1.mono (by omega)))).mono ?_
              rintro e V13 ⟨rfl, hb⟩
              have LY := Lib.hid (LY.out.call hb)
              clear hb hHeld
              refine hK.out _ _ (BX.out _ (H2.out.trans LY.out.1)) (fun hHeld => ?_)
              clear hK K
              try simp only [Act.put, List.setIfInBounds_toArray, List.set_cons_zero, List.set_cons_succ]
              refine wpAnyH_ready (rs := [4]) (by kernel_rfl) (by simp) (AllReadyH.cons (o := { dst := some 6, op := Op.alloc 53, type := 0, pos := "family.go:55", after := #[], guard := none }) rfl (fun K hK => ?_) (AllReadyH.nil))
              · go_simp
                have LY := Lib.hid (LY.out.alloc6)
                clear hHeld
                refine hK.out _ _ (BX.out _ (H2.out.trans LY.out.1)) (fun hHeld => ?_)
                clear hK K
                try simp only [Act.put, List.setIfInBounds_toArray, List.set_cons_zero, List.set_cons_succ]
                generalize V13.alloc (.cells #[.int .u64 0, .int .u64 0, .int .i64 0, .int .i64 0] 53) = V14 at *
                generalize V13.heap.size = g6 at *
                obtain ⟨_, hs3, a6, a7, ne⟩ := LY.out
                obtain ⟨b6, l6, e6⟩ := a6 _ rfl
                obtain ⟨b7, l7, e7⟩ := a7 _ rfl
                have ne := Lib.hid (ne _ _ rfl rfl)
                clear a6 a7
                obtain ⟨q60, q61, q62, q63, fz6⟩ := zb_facts e6
                have p6 := put4 e6 L H mn mx
                have P6 := Lib.hid p6.1
                have O6 := Lib.hid p6.2
                have E7 := Lib.hid e7
                clear p6 e6 e7
                refine wpAnyH_ready (rs := [6]) (by kernel_rfl) (by simp) (AllReadyH.cons (o := { dst := none, op := Op.store 53 (Operand.tmp 6) (Operand.tmp 18), type := 0, pos := "family.go:55", after := #[{ on := 4, ground := Ground.data }, { on := 1, ground := Ground.data }, { on := 3, ground := Ground.chain }, { on := 0, ground := Ground.phase }, { on := 1, ground := Ground.phase }, { on := 2, ground := Ground.textOnly Departure.lateStores }, { on := 3, ground := Ground.phase }, { on := 4, ground := Ground.phase }, { on := 5, ground := Ground.phase }], guard := none }) rfl (fun K hK => ?_) AllReadyH.nil)
                go_simp
                clear hHeld q60 q61 q62 q63 fz6
                refine hK.out _ _ (BX.out _ (H2.out.trans (LY.out.1.trans (O6.out.1.mono b6)))) (fun hHeld => ?_)
                clear hK K
                try simp only [Act.put, List.setIfInBounds_toArray, List.set_cons_zero, List.set_cons_succ]
                generalize ((((V14.setCell ⟨g6, 0, none⟩ (.int .u64 (L : Nat))).setCell ⟨g6, 1, none⟩ (.int .u64 (H : Nat))).setCell ⟨g6, 2, none⟩ (.int .i64 mn)).setCell ⟨g6, 3, none⟩ (.int .i64 mx)) = S6 at *
                have e7 := (O6.out.2 g7 (Ne.symm ne.out)).trans E7.out
                obtain ⟨q70, q71, q72, q73, fz7⟩ := zb_facts e7
                have p7 := put4 e7 L' H' mn' mx'
                have P7 := Lib.hid p7.1
                have O7 := Lib.hid p7.2
                clear p7 e7
                refine wpAnyH_ready (rs := [7]) (by kernel_rfl) (by simp) (AllReadyH.cons (o := { dst := none, op := Op.store 53 (Operand.tmp 7) (Operand.tmp 20), type := 0, pos := "family.go:55", after := #[{ on := 5, ground := Ground.data }, { on := 3, ground := Ground.data }, { on := 6, ground := Ground.chain }, { on := 0, ground := Ground.phase }, { on := 1, ground := Ground.phase }, { on := 2, ground := Ground.phase }, { on := 3, ground := Ground.phase }, { on := 4, ground := Ground.phase }, { on := 5, ground := Ground.phase }, { on := 6, ground := Ground.phase }], guard := none }) rfl (fun K hK => ?_) AllReadyH.nil)
                go_simp
                clear hHeld q70 q71 q72 q73 fz7
                refine hK.out _ _ (BX.out _ (H2.out.trans (LY.out.1.trans ((O6.out.1.mono b6).trans (O7.out.1.mono b7))))) (fun hHeld => ?_)
                clear hK K hHeld
                try simp only [Act.put, List.setIfInBounds_toArray, List.set_cons_zero, List.set_cons_succ]
                generalize ((((S6.setCell ⟨g7, 0, none⟩ (.int .u64 (L' : Nat))).setCell ⟨g7, 1, none⟩ (.int .u64 (H' : Nat))).setCell ⟨g7, 2, none⟩ (.int .i64 mn')).setCell ⟨g7, 3, none⟩ (.int .i64 mx')) = S7 at *
                refine wpAnyH_done (by kernel_rfl) ?_ _
                go_wp2_with fail
                go_meet
                exact ⟨g6, g7, rfl, rfl, ⟨ne.out, b6, b7, (O7.out.2 g6 ne.out).trans P6.out, P7.out⟩, LY.out.1.trans ((O6.out.1.mono b6).trans (O7.out.1.mono b7))⟩
            · go_simp
              have LY := Lib.hid (LY.out.alloc6)
              clear hHeld
              refine hK.out _ _ (BX.out _ (H2.out.trans LY.out.1)) (fun hHeld => ?_)
              clear hK K
              try simp only [Act.put, List.setIfInBounds_toArray, List.set_cons_zero, List.set_cons_succ]
              generalize V12.alloc (.cells #[.int .u64 0, .int .u64 0, .int .i64 0, .int .i64 0] 53) = V15 at *
              generalize V12.heap.size = g6 at *
              refine wpAnyH_ready (rs := [3]) (by kernel_rfl) (by simp) (AllReadyH.cons (o := { dst := some 20, op := Op.call { callee := Callee.value (Operand.func 31), args := #[Operand.tmp 19], argTypes := #[24] }, type := 53, pos := "family.go:55", after := #[{ on := 2, ground := Ground.data }, { on := 1, ground := Ground.chain }], guard := none }) rfl (fun K hK => ?_) (AllReadyH.nil))
              · go_simp
                refine ((BQ).out _ (B2.out.trans (LY.out.1.mono (by omega)))).mono ?_
                rintro e V16 ⟨rfl, hb⟩
                have LY := Lib.hid (LY.out.call hb)
                clear hb hHeld
                refine hK.out _ _ (BX.out _ (H2.out.trans LY.out.1)) (fun hHeld => ?_)
                clear hK K
                try simp only [Act.put, List.setIfInBounds_toArray, List.set_cons_zero, List.set_cons_succ]
                obtain ⟨_, hs3, a6, a7, ne⟩ := LY.out
                obtain ⟨b6, l6, e6⟩ := a6 _ rfl
                obtain ⟨b7, l7, e7⟩ := a7 _ rfl
                have ne := Lib.hid (ne _ _ rfl rfl)
                clear a6 a7
                obtain ⟨q60, q61, q62, q63, fz6⟩ := zb_facts e6
                have p6 := put4 e6 L H mn mx
                have P6 := Lib.hid p6.1
                have O6 := Lib.hid p6.2
                have E7 := Lib.hid e7
                clear p6 e6 e7
                refine wpAnyH_ready (rs := [6]) (by kernel_rfl) (by simp) (AllReadyH.cons (o := { dst := none, op := Op.store 53 (Operand.tmp 6) (Operand.tmp 18), type := 0, pos := "family.go:55", after := #[{ on := 4, ground := Ground.data }, { on := 1, ground := Ground.data }, { on := 3, ground := Ground.chain }, { on := 0, ground := Ground.phase }, { on := 1, ground := Ground.phase }, { on := 2, ground := Ground.textOnly Departure.lateStores }, { on := 3, ground := Ground.phase }, { on := 4, ground := Ground.phase }, { on := 5, ground := Ground.phase }], guard := none }) rfl (fun K hK => ?_) AllReadyH.nil)
                go_simp
                clear hHeld q60 q61 q62 q63 fz6
                refine hK.out _ _ (BX.out _ (H2.out.trans (LY.out.1.trans (O6.out.1.mono b6)))) (fun hHeld => ?_)
                clear hK K
                try simp only [Act.put, List.setIfInBounds_toArray, List.set_cons_zero, List.set_cons_succ]
                generalize ((((V16.setCell ⟨g6, 0, none⟩ (.int .u64 (L : Nat))).setCell ⟨g6, 1, none⟩ (.int .u64 (H : Nat))).setCell ⟨g6, 2, none⟩ (.int .i64 mn)).setCell ⟨g6, 3, none⟩ (.int .i64 mx)) = S6 at *
                have e7 := (O6.out.2 g7 (Ne.symm ne.out)).trans E7.out
                obtain ⟨q70, q71, q72, q73, fz7⟩ := zb_facts e7
                have p7 := put4 e7 L' H' mn' mx'
                have P7 := Lib.hid p7.1
                have O7 := Lib.hid p7.2
                clear p7 e7
                refine wpAnyH_ready (rs := [7]) (by kernel_rfl) (by simp) (AllReadyH.cons (o := { dst := none, op := Op.store 53 (Operand.tmp 7) (Operand.tmp 20), type := 0, pos := "family.go:55", after := #[{ on := 5, ground := Ground.data }, { on := 3, ground := Ground.data }, { on := 6, ground := Ground.chain }, { on := 0, ground := Ground.phase }, { on := 1, ground := Ground.phase }, { on := 2, ground := Ground.phase }, { on := 3, ground := Ground.phase }, { on := 4, ground := Ground.phase }, { on := 5, ground := Ground.phase }, { on := 6, ground := Ground.phase }], guard := none }) rfl (fun K hK => ?_) AllReadyH.nil)
                go_simp
                clear hHeld q70 q71 q72 q73 fz7
                refine hK.out _ _ (BX.out _ (H2.out.trans (LY.out.1.trans ((O6.out.1.mono b6).trans (O7.out.1.mono b7))))) (fun hHeld => ?_)
                clear hK K hHeld
                try simp only [Act.put, List.setIfInBounds_toArray, List.set_cons_zero, List.set_cons_succ]
                generalize ((((S6.setCell ⟨g7, 0, none⟩ (.int .u64 (L' : Nat))).setCell ⟨g7, 1, none⟩ (.int .u64 (H' : Nat))).setCell ⟨g7, 2, none⟩ (.int .i64 mn')).setCell ⟨g7, 3, none⟩ (.int .i64 mx')) = S7 at *
                refine wpAnyH_done (by kernel_rfl) ?_ _
                go_wp2_with fail
                go_meet
                exact ⟨g6, g7, rfl, rfl, ⟨ne.out, b6, b7, (O7.out.2 g6 ne.out).trans P6.out, P7.out⟩, LY.out.1.trans ((O6.out.1.mono b6).trans (O7.out.1.mono b7))⟩
        · go_simp
          have LY := Lib.hid (LY.out.alloc6)
          clear hHeld
          refine hK.out _ _ (BX.out _ (H2.out.trans LY.out.1)) (fun hHeld => ?_)
          clear hK K
          try simp only [Act.put, List.setIfInBounds_toArray, List.set_cons_zero, List.set_cons_succ]
          generalize V.alloc (.cells #[.int .u64 0, .int .u64 0, .int .i64 0, .int .i64 0] 53) = V17 at *
          generalize V.heap.size = g6 at *
          refine wpAnyH_ready (rs := [1, 5]) (by kernel_rfl) (by simp) (AllReadyH.cons (o := { dst := some 18, op := Op.call { callee := Callee.value (Operand.func 31), args := #[Operand.tmp 17], argTypes := #[24] }, type := 53, pos := "family.go:55", after := #[{ on := 0, ground := Ground.data }], guard := none }) rfl (fun K hK => ?_) (AllReadyH.cons (o := { dst := some 7, op := Op.alloc 53, type := 0, pos := "family.go:55", after := #[], guard := none }) rfl (fun K hK => ?_) (AllReadyH.nil)))
          · go_simp
            refine ((BO).out _ (B2.out.trans (LY.out.1.mono (by omega)))).mono ?_
            rintro e V18 ⟨rfl, hb⟩
            have LY := Lib.hid (LY.out.call hb)
            clear hb hHeld
            refine hK.out _ _ (BX.out _ (H2.out.trans LY.out.1)) (fun hHeld => ?_)
            clear hK K
            try simp only [Act.put, List.setIfInBounds_toArray, List.set_cons_zero, List.set_cons_succ]
            refine wpAnyH_ready (rs := [3, 5]) (by kernel_rfl) (by simp) (AllReadyH.cons (o := { dst := some 20, op := Op.call { callee := Callee.value (Operand.func 31), args := #[Operand.tmp 19], argTypes := #[24] }, type := 53, pos := "family.go:55", after := #[{ on := 2, ground := Ground.data }, { on := 1, ground := Ground.chain }], guard := none }) rfl (fun K hK => ?_) (AllReadyH.cons (o := { dst := some 7, op := Op.alloc 53, type := 0, pos := "family.go:55", after := #[], guard := none }) rfl (fun K hK => ?_) (AllReadyH.nil)))
            · go_simp
              refine ((BQ).out _ (B2.out.trans (LY.out.1.mono (by omega)))).mono ?_
              rintro e V19 ⟨rfl, hb⟩
              have LY := Lib.hid (LY.out.call hb)
              clear hb hHeld
              refine hK.out _ _ (BX.out _ (H2.out.trans LY.out.1)) (fun hHeld => ?_)
              clear hK K
              try simp only [Act.put, List.setIfInBounds_toArray, List.set_cons_zero, List.set_cons_succ]
              refine wpAnyH_ready (rs := [5]) (by kernel_rfl) (by simp) (AllReadyH.cons (o := { dst := some 7, op := Op.alloc 53, type := 0, pos := "family.go:55", after := #[], guard := none }) rfl (fun K hK => ?_) (AllReadyH.nil))
              · go_simp
                have LY := Lib.hid (LY.out.alloc7)
                clear hHeld
                refine hK.out _ _ (BX.out _ (H2.out.trans LY.out.1)) (fun hHeld => ?_)
                clear hK K
                try simp only [Act.put, List.setIfInBounds_toArray, List.set_cons_zero, List.set_cons_succ]
                generalize V19.alloc (.cells #[.int .u64 0, .int .u64 0, .int .i64 0, .int .i64 0] 53) = V20 at *
                generalize V19.heap.size = g7 at *
                obtain ⟨_, hs3, a6, a7, ne⟩ := LY.out
                obtain ⟨b6, l6, e6⟩ := a6 _ rfl
                obtain ⟨b7, l7, e7⟩ := a7 _ rfl
                have ne := Lib.hid (ne _ _ rfl rfl)
                clear a6 a7
                obtain ⟨q60, q61, q62, q63, fz6⟩ := zb_facts e6
                have p6 := put4 e6 L H mn mx
                have P6 := Lib.hid p6.1
                have O6 := Lib.hid p6.2
                have E7 := Lib.hid e7
                clear p6 e6 e7
                refine wpAnyH_ready (rs := [6]) (by kernel_rfl) (by simp) (AllReadyH.cons (o := { dst := none, op := Op.store 53 (Operand.tmp 6) (Operand.tmp 18), type := 0, pos := "family.go:55", after := #[{ on := 4, ground := Ground.data }, { on := 1, ground := Ground.data }, { on := 3, ground := Ground.chain }, { on := 0, ground := Ground.phase }, { on := 1, ground := Ground.phase }, { on := 2, ground := Ground.textOnly Departure.lateStores }, { on := 3, ground := Ground.phase }, { on := 4, ground := Ground.phase }, { on := 5, ground := Ground.phase }], guard := none }) rfl (fun K hK => ?_) AllReadyH.nil)
                go_simp
                clear hHeld q60 q61 q62 q63 fz6
                refine hK.out _ _ (BX.out _ (H2.out.trans (LY.out.1.trans (O6.out.1.mono b6)))) (fun hHeld => ?_)
                clear hK K
                try simp only [Act.put, List.setIfInBounds_toArray, List.set_cons_zero, List.set_cons_succ]
                generalize ((((V20.setCell ⟨g6, 0, none⟩ (.int .u64 (L : Nat))).setCell ⟨g6, 1, none⟩ (.int .u64 (H : Nat))).setCell ⟨g6, 2, none⟩ (.int .i64 mn)).setCell ⟨g6, 3, none⟩ (.int .i64 mx)) = S6 at *
                have e7 := (O6.out.2 g7 (Ne.symm ne.out)).trans E7.out
                obtain ⟨q70, q71, q72, q73, fz7⟩ := zb_facts e7
                have p7 := put4 e7 L' H' mn' mx'
                have P7 := Lib.hid p7.1
                have O7 := Lib.hid p7.2
                clear p7 e7
                refine wpAnyH_ready (rs := [7]) (by kernel_rfl) (by simp) (AllReadyH.cons (o := { dst := none, op := Op.store 53 (Operand.tmp 7) (Operand.tmp 20), type := 0, pos := "family.go:55", after := #[{ on := 5, ground := Ground.data }, { on := 3, ground := Ground.data }, { on := 6, ground := Ground.chain }, { on := 0, ground := Ground.phase }, { on := 1, ground := Ground.phase }, { on := 2, ground := Ground.phase }, { on := 3, ground := Ground.phase }, { on := 4, ground := Ground.phase }, { on := 5, ground := Ground.phase }, { on := 6, ground := Ground.phase }], guard := none }) rfl (fun K hK => ?_) AllReadyH.nil)
                go_simp
                clear hHeld q70 q71 q72 q73 fz7
                refine hK.out _ _ (BX.out _ (H2.out.trans (LY.out.1.trans ((O6.out.1.mono b6).trans (O7.out.1.mono b7))))) (fun hHeld => ?_)
                clear hK K hHeld
                try simp only [Act.put, List.setIfInBounds_toArray, List.set_cons_zero, List.set_cons_succ]
                generalize ((((S6.setCell ⟨g7, 0, none⟩ (.int .u64 (L' : Nat))).setCell ⟨g7, 1, none⟩ (.int .u64 (H' : Nat))).setCell ⟨g7, 2, none⟩ (.int .i64 mn')).setCell ⟨g7, 3, none⟩ (.int .i64 mx')) = S7 at *
                refine wpAnyH_done (by kernel_rfl) ?_ _
                go_wp2_with fail
                go_meet
                exact ⟨g6, g7, rfl, rfl, ⟨ne.out, b6, b7, (O7.out.2 g6 ne.out).trans P6.out, P7.out⟩, LY.out.1.trans ((O6.out.1.mono b6).trans (O7.out.1.mono b7))⟩
            · go_simp
              have LY := Lib.hid (LY.out.alloc7)
              clear hHeld
              refine hK.out _ _ (BX.out _ (H2.out.trans LY.out.1)) (fun hHeld => ?_)
              clear hK K
              try simp only [Act.put, List.setIfInBounds_toArray, List.set_cons_zero, List.set_cons_succ]
              generalize V18.alloc (.cells #[.int .u64 0, .int .u64 0, .int .i64 0, .int .i64 0] 53) = V21 at *
              generalize V18.heap.size = g7 at *
              refine wpAnyH_ready (rs := [3]) (by kernel_rfl) (by simp) (AllReadyH.cons (o := { dst := some 20, op := Op.call { callee := Callee.value (Operand.func 31), args := #[Operand.tmp 19], argTypes := #[24] }, type := 53, pos := "family.go:55", after := #[{ on := 2, ground := Ground.data }, { on := 1, ground := Ground.chain }], guard := none }) rfl (fun K hK => ?_) (AllReadyH.nil))
              · go_simp
                refine ((BQ).out _ (B2.out.trans (LY.out.1.mono (by omega)))).mono ?_
                rintro e V22 ⟨rfl, hb⟩
                have LY := Lib.hid (LY.out.call hb)
                clear hb hHeld
                refine hK.out _ _ (BX.out _ (H2.out.trans LY.out.1)) (fun hHeld => ?_)
                clear hK K
                try simp only [Act.put, List.setIfInBounds_toArray, List.set_cons_zero, List.set_cons_succ]
                obtain ⟨_, hs3, a6, a7, ne⟩ := LY.out
                obtain ⟨b6, l6, e6⟩ := a6 _ rfl
                obtain ⟨b7, l7, e7⟩ := a7 _ rfl
                have ne := Lib.hid (ne _ _ rfl rfl)
                clear a6 a7
                obtain ⟨q60, q61, q62, q63, fz6⟩ := zb_facts e6
                have p6 := put4 e6 L H mn mx
                have P6 := Lib.hid p6.1
                have O6 := Lib.hid p6.2
                have E7 := Lib.hid e7
                clear p6 e6 e7
                refine wpAnyH_ready (rs := [6]) (by kernel_rfl) (by simp) (AllReadyH.cons (o := { dst := none, op := Op.store 53 (Operand.tmp 6) (Operand.tmp 18), type := 0, pos := "family.go:55", after := #[{ on := 4, ground := Ground.data }, { on := 1, ground := Ground.data }, { on := 3, ground := Ground.chain }, { on := 0, ground := Ground.phase }, { on := 1, ground := Ground.phase }, { on := 2, ground := Ground.textOnly Departure.lateStores }, { on := 3, ground := Ground.phase }, { on := 4, ground := Ground.phase }, { on := 5, ground := Ground.phase }], guard := none }) rfl (fun K hK => ?_) AllReadyH.nil)
                go_simp
                clear hHeld q60 q61 q62 q63 fz6
                refine hK.out _ _ (BX.out _ (H2.out.trans (LY.out.1.trans (O6.out.1.mono b6)))) (fun hHeld => ?_)
                clear hK K
                try simp only [Act.put, List.setIfInBounds_toArray, List.set_cons_zero, List.set_cons_succ]
                generalize ((((V22.setCell ⟨g6, 0, none⟩ (.int .u64 (L : Nat))).setCell ⟨g6, 1, none⟩ (.int .u64 (H : Nat))).setCell ⟨g6, 2, none⟩ (.int .i64 mn)).setCell ⟨g6, 3, none⟩ (.int .i64 mx)) = S6 at *
                have e7 := (O6.out.2 g7 (Ne.symm ne.out)).trans E7.out
                obtain ⟨q70, q71, q72, q73, fz7⟩ := zb_facts e7
                have p7 := put4 e7 L' H' mn' mx'
                have P7 := Lib.hid p7.1
                have O7 := Lib.hid p7.2
                clear p7 e7
                refine wpAnyH_ready (rs := [7]) (by kernel_rfl) (by simp) (AllReadyH.cons (o := { dst := none, op := Op.store 53 (Operand.tmp 7) (Operand.tmp 20), type := 0, pos := "family.go:55", after := #[{ on := 5, ground := Ground.data }, { on := 3, ground := Ground.data }, { on := 6, ground := Ground.chain }, { on := 0, ground := Ground.phase }, { on := 1, ground := Ground.phase }, { on := 2, ground := Ground.phase }, { on := 3, ground := Ground.phase }, { on := 4, ground := Ground.phase }, { on := 5, ground := Ground.phase }, { on := 6, ground := Ground.phase }], guard := none }) rfl (fun K hK => ?_) AllReadyH.nil)
                go_simp
                clear hHeld q70 q71 q72 q73 fz7
                refine hK.out _ _ (BX.out _ (H2.out.trans (LY.out.1.trans ((O6.out.1.mono b6).trans (O7.out.1.mono b7))))) (fun hHeld => ?_)
                clear hK K hHeld
                try simp only [Act.put, List.setIfInBounds_toArray, List.set_cons_zero, List.set_cons_succ]
                generalize ((((S6.setCell ⟨g7, 0, none⟩ (.int .u64 (L' : Nat))).setCell ⟨g7, 1, none⟩ (.int .u64 (H' : Nat))).setCell ⟨g7, 2, none⟩ (.int .i64 mn')).setCell ⟨g7, 3, none⟩ (.int .i64 mx')) = S7 at *
                refine wpAnyH_done (by kernel_rfl) ?_ _
                go_wp2_with fail
                go_meet
                exact ⟨g6, g7, rfl, rfl, ⟨ne.out, b6, b7, (O7.out.2 g6 ne.out).trans P6.out, P7.out⟩, LY.out.1.trans ((O6.out.1.mono b6).trans (O7.out.1.mono b7))⟩
          · go_simp
            have LY := Lib.hid (LY.out.alloc7)
            clear hHeld
            refine hK.out _ _ (BX.out _ (H2.out.trans LY.out.1)) (fun hHeld => ?_)
            clear hK K
            try simp only [Act.put, List.setIfInBounds_toArray, List.set_cons_zero, List.set_cons_succ]
            generalize V17.alloc (.cells #[.int .u64 0, .int .u64 0, .int .i64 0, .int .i64 0] 53) = V23 at *
            generalize V17.heap.size = g7 at *
            refine wpAnyH_ready (rs := [1]) (by kernel_rfl) (by simp) (AllReadyH.cons (o := { dst := some 18, op := Op.call { callee := Callee.value (Operand.func 31), args := #[Operand.tmp 17], argTypes := #[24] }, type := 53, pos := "family.go:55", after := #[{ on := 0, ground := Ground.data }], guard := none }) rfl (fun K hK => ?_) (AllReadyH.nil))
            · go_simp
              refine ((BO).out _ (B2.out.trans (LY.out.1.mono (by omega)))).mono ?_
              rintro e V24 ⟨rfl, hb⟩
              have LY := Lib.hid (LY.out.call hb)
              clear hb hHeld
              refine hK.out _ _ (BX.out _ (H2.out.trans LY.out.1)) (fun hHeld => ?_)
              clear hK K
              try simp only [Act.put, List.setIfInBounds_toArray, List.set_cons_zero, List.set_cons_succ]
              refine wpAnyH_ready (rs := [3]) (by kernel_rfl) (by simp) (AllReadyH.cons (o := { dst := some 20, op := Op.call { callee := Callee.value (Operand.func 31), args := #[Operand.tmp 19], argTypes := #[24] }, type := 53, pos := "family.go:55", after := #[{ on := 2, ground := Ground.data }, { on := 1, ground := Ground.chain }], guard := none }) rfl (fun K hK => ?_) (AllReadyH.nil))
              · go_simp
                refine ((BQ).out _ (B2.out.trans (LY.out.1.mono (by omega)))).mono ?_
                rintro e V25 ⟨rfl, hb⟩
                have LY := Lib.hid (LY.out.call hb)
                clear hb hHeld
                refine hK.out _ _ (BX.out _ (H2.out.trans LY.out.1)) (fun hHeld => ?_)
                clear hK K
                try simp only [Act.put, List.setIfInBounds_toArray, List.set_cons_zero, List.set_cons_succ]
                obtain ⟨_, hs3, a6, a7, ne⟩ := LY.out
                obtain ⟨b6, l6, e6⟩ := a6 _ rfl
                obtain ⟨b7, l7, e7⟩ := a7 _ rfl
                have ne := Lib.hid (ne _ _ rfl rfl)
                clear a6 a7
                obtain ⟨q60, q61, q62, q63, fz6⟩ := zb_facts e6
                have p6 := put4 e6 L H mn mx
                have P6 := Lib.hid p6.1
                have O6 := Lib.hid p6.2
                have E7 := Lib.hid e7
                clear p6 e6 e7
                refine wpAnyH_ready (rs := [6]) (by kernel_rfl) (by simp) (AllReadyH.cons (o := { dst := none, op := Op.store 53 (Operand.tmp 6) (Operand.tmp 18), type := 0, pos := "family.go:55", after := #[{ on := 4, ground := Ground.data }, { on := 1, ground := Ground.data }, { on := 3, ground := Ground.chain }, { on := 0, ground := Ground.phase }, { on := 1, ground := Ground.phase }, { on := 2, ground := Ground.textOnly Departure.lateStores }, { on := 3, ground := Ground.phase }, { on := 4, ground := Ground.phase }, { on := 5, ground := Ground.phase }], guard := none }) rfl (fun K hK => ?_) AllReadyH.nil)
                go_simp
                clear hHeld q60 q61 q62 q63 fz6
                refine hK.out _ _ (BX.out _ (H2.out.trans (LY.out.1.trans (O6.out.1.mono b6)))) (fun hHeld => ?_)
                clear hK K
                try simp only [Act.put, List.setIfInBounds_toArray, List.set_cons_zero, List.set_cons_succ]
                generalize ((((V25.setCell ⟨g6, 0, none⟩ (.int .u64 (L : Nat))).setCell ⟨g6, 1, none⟩ (.int .u64 (H : Nat))).setCell ⟨g6, 2, none⟩ (.int .i64 mn)).setCell ⟨g6, 3, none⟩ (.int .i64 mx)) = S6 at *
                have e7 := (O6.out.2 g7 (Ne.symm ne.out)).trans E7.out
                obtain ⟨q70, q71, q72, q73, fz7⟩ := zb_facts e7
                have p7 := put4 e7 L' H' mn' mx'
                have P7 := Lib.hid p7.1
                have O7 := Lib.hid p7.2
                clear p7 e7
                refine wpAnyH_ready (rs := [7]) (by kernel_rfl) (by simp) (AllReadyH.cons (o := { dst := none, op := Op.store 53 (Operand.tmp 7) (Operand.tmp 20), type := 0, pos := "family.go:55", after := #[{ on := 5, ground := Ground.data }, { on := 3, ground := Ground.data }, { on := 6, ground := Ground.chain }, { on := 0, ground := Ground.phase }, { on := 1, ground := Ground.phase }, { on := 2, ground := Ground.phase }, { on := 3, ground := Ground.phase }, { on := 4, ground := Ground.phase }, { on := 5, ground := Ground.phase }, { on := 6, ground := Ground.phase }], guard := none }) rfl (fun K hK => ?_) AllReadyH.nil)
                go_simp
                clear hHeld q70 q71 q72 q73 fz7
                refine hK.out _ _ (BX.out _ (H2.out.trans (LY.out.1.trans ((O6.out.1.mono b6).trans (O7.out.1.mono b7))))) (fun hHeld => ?_)
                clear hK K hHeld
                try simp only [Act.put, List.setIfInBounds_toArray, List.set_cons_zero, List.set_cons_succ]
                generalize ((((S6.setCell ⟨g7, 0, none⟩ (.int .u64 (L' : Nat))).setCell ⟨g7, 1, none⟩ (.int .u64 (H' : Nat))).setCell ⟨g7, 2, none⟩ (.int .i64 mn')).setCell ⟨g7, 3, none⟩ (.int .i64 mx')) = S7 at *
                refine wpAnyH_done (by kernel_rfl) ?_ _
                go_wp2_with fail
                go_meet
                exact ⟨g6, g7, rfl, rfl, ⟨ne.out, b6, b7, (O7.out.2 g6 ne.out).trans P6.out, P7.out⟩, LY.out.1.trans ((O6.out.1.mono b6).trans (O7.out.1.mono b7))⟩
        · go_simp
          have LY := Lib.hid (LY.out.alloc7)
          clear hHeld
          refine hK.out _ _ (BX.out _ (H2.out.trans LY.out.1)) (fun hHeld => ?_)
          clear hK K
          try simp only [Act.put, List.setIfInBounds_toArray, List.set_cons_zero, List.set_cons_succ]
          generalize V.alloc (.cells #[.int .u64 0, .int .u64 0, .int .i64 0, .int .i64 0] 53) = V26 at *
          generalize V.heap.size = g7 at *
          refine wpAnyH_ready (rs := [1, 4]) (by kernel_rfl) (by simp) (AllReadyH.cons (o := { dst := some 18, op := Op.call { callee := Callee.value (Operand.func 31), args := #[Operand.tmp 17], argTypes := #[24] }, type := 53, pos := "family.go:55", after := #[{ on := 0, ground := Ground.data }], guard := none }) rfl (fun K hK => ?_) (AllReadyH.cons (o := { dst := some 6, op := Op.alloc 53, type := 0, pos := "family.go:55", after := #[], guard := none }) rfl (fun K hK => ?_) (AllReadyH.nil)))
          · go_simp
            refine ((BO).out _ (B2.out.trans (LY.out.1.mono (by omega)))).mono ?_
            rintro e V27 ⟨rfl, hb⟩
            have LY := Lib.hid (LY.out.call hb)
            clear hb hHeld
            refine hK.out _ _ (BX.out _ (H2.out.trans LY.out.1)) (fun hHeld => ?_)
            clear hK K
            try simp only [Act.put, List.setIfInBounds_toArray, List.set_cons_zero, List.set_cons_succ]
            refine wpAnyH_ready (rs := [3, 4]) (by kernel_rfl) (by simp) (AllReadyH.cons (o := { dst := some 20, op := Op.call { callee := Callee.value (Operand.func 31), args := #[Operand.tmp 19], argTypes := #[24] }, type := 53, pos := "family.go:55", after := #[{ on := 2, ground := Ground.data }, { on := 1, ground := Ground.chain }], guard := none }) rfl (fun K hK => ?_) (AllReadyH.cons (o := { dst := some 6, op := Op.alloc 53, type := 0, pos := "family.go:55", after := #[], guard := none }) rfl (fun K hK => ?_) (AllReadyH.nil)))
            · go_simp
              refine ((BQ).out _ (B2.out.trans (LY.out.1.mono (by omega)))).mono ?_
              rintro e V28 ⟨rfl, hb⟩
              have LY := Lib.hid (LY.out.call hb)
              clear hb hHeld
              refine hK.out _ _ (BX.out _ (H2.out.trans LY.out.1)) (fun hHeld => ?_)
              clear hK K
              try simp only [Act.put, List.setIfInBounds_toArray, List.set_cons_zero, List.set_cons_succ]
              refine wpAnyH_ready (rs := [4]) (by kernel_rfl) (by simp) (AllReadyH.cons (o := { dst := some 6, op := Op.alloc 53, type := 0, pos := "family.go:55", after := #[], guard := none }) rfl (fun K hK => ?_) (AllReadyH.nil))
              · go_simp
                have LY := Lib.hid (LY.out.alloc6)
                clear hHeld
                refine hK.out _ _ (BX.out _ (H2.out.trans LY.out.1)) (fun hHeld => ?_)
                clear hK K
                try simp only [Act.put, List.setIfInBounds_toArray, List.set_cons_zero, List.set_cons_succ]
                generalize V28.alloc (.cells #[.int .u64 0, .int .u64 0, .int .i64 0, .int .i64 0] 53) = V29 at *
                generalize V28.heap.size = g6 at *
                obtain ⟨_, hs3, a6, a7, ne⟩ := LY.out
                obtain ⟨b6, l6, e6⟩ := a6 _ rfl
                obtain ⟨b7, l7, e7⟩ := a7 _ rfl
                have ne := Lib.hid (ne _ _ rfl rfl)
                clear a6 a7
                obtain ⟨q60, q61, q62, q63, fz6⟩ := zb_facts e6
                have p6 := put4 e6 L H mn mx
                have P6 := Lib.hid p6.1
                have O6 := Lib.hid p6.2
                have E7 := Lib.hid e7
                clear p6 e6 e7
                refine wpAnyH_ready (rs := [6]) (by kernel_rfl) (by simp) (AllReadyH.cons (o := { dst := none, op := Op.store 53 (Operand.tmp 6) (Operand.tmp 18), type := 0, pos := "family.go:55", after := #[{ on := 4, ground := Ground.data }, { on := 1, ground := Ground.data }, { on := 3, ground := Ground.chain }, { on := 0, ground := Ground.phase }, { on := 1, ground := Ground.phase }, { on := 2, ground := Ground.textOnly Departure.lateStores }, { on := 3, ground := Ground.phase }, { on := 4, ground := Ground.phase }, { on := 5, ground := Ground.phase }], guard := none }) rfl (fun K hK => ?_) AllReadyH.nil)
                go_simp
                clear hHeld q60 q61 q62 q63 fz6
                refine hK.out _ _ (BX.out _ (H2.out.trans (LY.out.1.trans (O6.out.1.mono b6)))) (fun hHeld => ?_)
                clear hK K
                try simp only [Act.put, List.setIfInBounds_toArray, List.set_cons_zero, List.set_cons_succ]
                generalize ((((V29.setCell ⟨g6, 0, none⟩ (.int .u64 (L : Nat))).setCell ⟨g6, 1, none⟩ (.int .u64 (H : Nat))).setCell ⟨g6, 2, none⟩ (.int .i64 mn)).setCell ⟨g6, 3, none⟩ (.int .i64 mx)) = S6 at *
                have e7 := (O6.out.2 g7 (Ne.symm ne.out)).trans E7.out
                obtain ⟨q70, q71, q72, q73, fz7⟩ := zb_facts e7
                have p7 := put4 e7 L' H' mn' mx'
                have P7 := Lib.hid p7.1
                have O7 := Lib.hid p7.2
                clear p7 e7
                refine wpAnyH_ready (rs := [7]) (by kernel_rfl) (by simp) (AllReadyH.cons (o := { dst := none, op := Op.store 53 (Operand.tmp 7) (Operand.tmp 20), type := 0, pos := "family.go:55", after := #[{ on := 5, ground := Ground.data }, { on := 3, ground := Ground.data }, { on := 6, ground := Ground.chain }, { on := 0, ground := Ground.phase }, { on := 1, ground := Ground.phase }, { on := 2, ground := Ground.phase }, { on := 3, ground := Ground.phase }, { on := 4, ground := Ground.phase }, { on := 5, ground := Ground.phase }, { on := 6, ground := Ground.phase }], guard := none }) rfl (fun K hK => ?_) AllReadyH.nil)
                go_simp
                clear hHeld q70 q71 q72 q73 fz7
                refine hK.out _ _ (BX.out _ (H2.out.trans (LY.out.1.trans ((O6.out.1.mono b6).trans (O7.out.1.mono b7))))) (fun hHeld => ?_)
                clear hK K hHeld
                try simp only [Act.put, List.setIfInBounds_toArray, List.set_cons_zero, List.set_cons_succ]
                generalize ((((S6.setCell ⟨g7, 0, none⟩ (.int .u64 (L' : Nat))).setCell ⟨g7, 1, none⟩ (.int .u64 (H' : Nat))).setCell ⟨g7, 2, none⟩ (.int .i64 mn')).setCell ⟨g7, 3, none⟩ (.int .i64 mx')) = S7 at *
                refine wpAnyH_done (by kernel_rfl) ?_ _
                go_wp2_with fail
                go_meet
                exact ⟨g6, g7, rfl, rfl, ⟨ne.out, b6, b7, (O7.out.2 g6 ne.out).trans P6.out, P7.out⟩, LY.out.1.trans ((O6.out.1.mono b6).trans (O7.out.1.mono b7))⟩
            · go_simp
              have LY := Lib.hid (LY.out.alloc6)
              clear hHeld
              refine hK.out _ _ (BX.out _ (H2.out.trans LY.out.1)) (fun hHeld => ?_)
              clear hK K
              try simp only [Act.put, List.setIfInBounds_toArray, List.set_cons_zero, List.set_cons_succ]
              generalize V27.alloc (.cells #[.int .u64 0, .int .u64 0, .int .i64 0, .int .i64 0] 53) = V30 at *
              generalize V27.heap.size = g6 at *
              refine wpAnyH_ready (rs := [3]) (by kernel_rfl) (by simp) (AllReadyH.cons (o := { dst := some 20, op := Op.call { callee := Callee.value (Operand.func 31), args := #[Operand.tmp 19], argTypes := #[24] }, type := 53, pos := "family.go:55", after := #[{ on := 2, ground := Ground.data }, { on := 1, ground := Ground.chain }], guard := none }) rfl (fun K hK => ?_) (AllReadyH.nil))
              · go_simp
                refine ((BQ).out _ (B2.out.trans (LY.out.1.mono (by omega)))).mono ?_
                rintro e V31 ⟨rfl, hb⟩
                have LY := Lib.hid (LY.out.call hb)
                clear hb hHeld
                refine hK.out _ _ (BX.out _ (H2.out.trans LY.out.1)) (fun hHeld => ?_)
                clear hK K
                try simp only [Act.put, List.setIfInBounds_toArray, List.set_cons_zero, List.set_cons_succ]
                obtain ⟨_, hs3, a6, a7, ne⟩ := LY.out
                obtain ⟨b6, l6, e6⟩ := a6 _ rfl
                obtain ⟨b7, l7, e7⟩ := a7 _ rfl
                have ne := Lib.hid (ne _ _ rfl rfl)
                clear a6 a7
                obtain ⟨q60, q61, q62, q63, fz6⟩ := zb_facts e6
                have p6 := put4 e6 L H mn mx
                have P6 := Lib.hid p6.1
                have O6 := Lib.hid p6.2
                have E7 := Lib.hid e7
                clear p6 e6 e7
                refine wpAnyH_ready (rs := [6]) (by kernel_rfl) (by simp) (AllReadyH.cons (o := { dst := none, op := Op.store 53 (Operand.tmp 6) (Operand.tmp 18), type := 0, pos := "family.go:55", after := #[{ on := 4, ground := Ground.data }, { on := 1, ground := Ground.data }, { on := 3, ground := Ground.chain }, { on := 0, ground := Ground.phase }, { on := 1, ground := Ground.phase }, { on := 2, ground := Ground.textOnly Departure.lateStores }, { on := 3, ground := Ground.phase }, { on := 4, ground := Ground.phase }, { on := 5, ground := Ground.phase }], guard := none }) rfl (fun K hK => ?_) AllReadyH.nil)
                go_simp
                clear hHeld q60 q61 q62 q63 fz6
                refine hK.out _ _ (BX.out _ (H2.out.trans (LY.out.1.trans (O6.out.1.mono b6)))) (fun hHeld => ?_)
                clear hK K
                try simp only [Act.put, List.setIfInBounds_toArray, List.set_cons_zero, List.set_cons_succ]
                generalize ((((V31.setCell ⟨g6, 0, none⟩ (.int .u64 (L : Nat))).setCell ⟨g6, 1, none⟩ (.int .u64 (H : Nat))).setCell ⟨g6, 2, none⟩ (.int .i64 mn)).setCell ⟨g6, 3, none⟩ (.int .i64 mx)) = S6 at *
                have e7 := (O6.out.2 g7 (Ne.symm ne.out)).trans E7.out
                obtain ⟨q70, q71, q72, q73, fz7⟩ := zb_facts e7
                have p7 := put4 e7 L' H' mn' mx'
                have P7 := Lib.hid p7.1
                have O7 := Lib.hid p7.2
                clear p7 e7
                refine wpAnyH_ready (rs := [7]) (by kernel_rfl) (by simp) (AllReadyH.cons (o := { dst := none, op := Op.store 53 (Operand.tmp 7) (Operand.tmp 20), type := 0, pos := "family.go:55", after := #[{ on := 5, ground := Ground.data }, { on := 3, ground := Ground.data }, { on := 6, ground := Ground.chain }, { on := 0, ground := Ground.phase }, { on := 1, ground := Ground.phase }, { on := 2, ground := Ground.phase }, { on := 3, ground := Ground.phase }, { on := 4, ground := Ground.phase }, { on := 5, ground := Ground.phase }, { on := 6, ground := Ground.phase }], guard := none }) rfl (fun K hK => ?_) AllReadyH.nil)
                go_simp
                clear hHeld q70 q71 q72 q73 fz7
                refine hK.out _ _ (BX.out _ (H2.out.trans (LY.out.1.trans ((O6.out.1.mono b6).trans (O7.out.1.mono b7))))) (fun hHeld => ?_)
                clear hK K hHeld
                try simp only [Act.put, List.setIfInBounds_toArray, List.set_cons_zero, List.set_cons_succ]
                generalize ((((S6.setCell ⟨g7, 0, none⟩ (.int .u64 (L' : Nat))).setCell ⟨g7, 1, none⟩ (.int .u64 (H' : Nat))).setCell ⟨g7, 2, none⟩ (.int .i64 mn')).setCell ⟨g7, 3, none⟩ (.int .i64 mx')) = S7 at *
                refine wpAnyH_done (by kernel_rfl) ?_ _
                go_wp2_with fail
                go_meet
                exact ⟨g6, g7, rfl, rfl, ⟨ne.out, b6, b7, (O7.out.2 g6 ne.out).trans P6.out, P7.out⟩, LY.out.1.trans ((O6.out.1.mono b6).trans (O7.out.1.mono b7))⟩
          · go_simp
            have LY := Lib.hid (LY.out.alloc6)
            clear hHeld
            refine hK.out _ _ (BX.out _ (H2.out.trans LY.out.1)) (fun hHeld => ?_)
            clear hK K
            try simp only [Act.put, List.setIfInBounds_toArray, List.set_cons_zero, List.set_cons_succ]
            generalize V26.alloc (.cells #[.int .u64 0, .int .u64 0, .int .i64 0, .int .i64 0] 53) = V32 at *
            generalize V26.heap.size = g6 at *
            refine wpAnyH_ready (rs := [1]) (by kernel_rfl) (by simp) (AllReadyH.cons (o := { dst := some 18, op := Op.call { callee := Callee.value (Operand.func 31), args := #[Operand.tmp 17], argTypes := #[24] }, type := 53, pos := "family.go:55", after := #[{ on := 0, ground := Ground.data }], guard := none }) rfl (fun K hK => ?_) (AllReadyH.nil))
            · go_simp
              refine ((BO).out _ (B2.out.trans (LY.out.1.mono (by omega)))).mono ?_
              rintro e V33 ⟨rfl, hb⟩
              have LY := Lib.hid (LY.out.call hb)
              clear hb hHeld
              refine hK.out _ _ (BX.out _ (H2.out.trans LY.out.1)) (fun hHeld => ?_)
              clear hK K
              try simp only [Act.put, List.setIfInBounds_toArray, List.set_cons_zero, List.set_cons_succ]
              refine wpAnyH_ready (rs := [3]) (by kernel_rfl) (by simp) (AllReadyH.cons (o := { dst := some 20, op := Op.call { callee := Callee.value (Operand.func 31), args := #[Operand.tmp 19], argTypes := #[24] }, type := 53, pos := "family.go:55", after := #[{ on := 2, ground := Ground.data }, { on := 1, ground := Ground.chain }], guard := none }) rfl (fun K hK => ?_) (AllReadyH.nil))
              · go_simp
                refine ((BQ).out _ (B2.out.trans (LY.out.1.mono (by omega)))).mono ?_
                rintro e V34 ⟨rfl, hb⟩
                have LY := Lib.hid (LY.out.call hb)
                clear hb hHeld
                refine hK.out _ _ (BX.out _ (H2.out.trans LY.out.1)) (fun hHeld => ?_)
                clear hK K
                try simp only [Act.put, List.setIfInBounds_toArray, List.set_cons_zero, List.set_cons_succ]
                obtain ⟨_, hs3, a6, a7, ne⟩ := LY.out
                obtain ⟨b6, l6, e6⟩ := a6 _ rfl
                obtain ⟨b7, l7, e7⟩ := a7 _ rfl
                have ne := Lib.hid (ne _ _ rfl rfl)
                clear a6 a7
                obtain ⟨q60, q61, q62, q63, fz6⟩ := zb_facts e6
                have p6 := put4 e6 L H mn mx
                have P6 := Lib.hid p6.1
                have O6 := Lib.hid p6.2
                have E7 := Lib.hid e7
                clear p6 e6 e7
                refine wpAnyH_ready (rs := [6]) (by kernel_rfl) (by simp) (AllReadyH.cons (o := { dst := none, op := Op.store 53 (Operand.tmp 6) (Operand.tmp 18), type := 0, pos := "family.go:55", after := #[{ on := 4, ground := Ground.data }, { on := 1, ground := Ground.data }, { on := 3, ground := Ground.chain }, { on := 0, ground := Ground.phase }, { on := 1, ground := Ground.phase }, { on := 2, ground := Ground.textOnly Departure.lateStores }, { on := 3, ground := Ground.phase }, { on := 4, ground := Ground.phase }, { on := 5, ground := Ground.phase }], guard := none }) rfl (fun K hK => ?_) AllReadyH.nil)
                go_simp
                clear hHeld q60 q61 q62 q63 fz6
                refine hK.out _ _ (BX.out _ (H2.out.trans (LY.out.1.trans (O6.out.1.mono b6)))) (fun hHeld => ?_)
                clear hK K
                try simp only [Act.put, List.setIfInBounds_toArray, List.set_cons_zero, List.set_cons_succ]
                generalize ((((V34.setCell ⟨g6, 0, none⟩ (.int .u64 (L : Nat))).setCell ⟨g6, 1, none⟩ (.int .u64 (H : Nat))).setCell ⟨g6, 2, none⟩ (.int .i64 mn)).setCell ⟨g6, 3, none⟩ (.int .i64 mx)) = S6 at *
                have e7 := (O6.out.2 g7 (Ne.symm ne.out)).trans E7.out
                obtain ⟨q70, q71, q72, q73, fz7⟩ := zb_facts e7
                have p7 := put4 e7 L' H' mn' mx'
                have P7 := Lib.hid p7.1
                have O7 := Lib.hid p7.2
                clear p7 e7
                refine wpAnyH_ready (rs := [7]) (by kernel_rfl) (by simp) (AllReadyH.cons (o := { dst := none, op := Op.store 53 (Operand.tmp 7) (Operand.tmp 20), type := 0, pos := "family.go:55", after := #[{ on := 5, ground := Ground.data }, { on := 3, ground := Ground.data }, { on := 6, ground := Ground.chain }, { on := 0, ground := Ground.phase }, { on := 1, ground := Ground.phase }, { on := 2, ground := Ground.phase }, { on := 3, ground := Ground.phase }, { on := 4, ground := Ground.phase }, { on := 5, ground := Ground.phase }, { on := 6, ground := Ground.phase }], guard := none }) rfl (fun K hK => ?_) AllReadyH.nil)
                go_simp
                clear hHeld q70 q71 q72 q73 fz7
                refine hK.out _ _ (BX.out _ (H2.out.trans (LY.out.1.trans ((O6.out.1.mono b6).trans (O7.out.1.mono b7))))) (fun hHeld => ?_)
                clear hK K hHeld
                try simp only [Act.put, List.setIfInBounds_toArray, List.set_cons_zero, List.set_cons_succ]
                generalize ((((S6.setCell ⟨g7, 0, none⟩ (.int .u64 (L' : Nat))).setCell ⟨g7, 1, none⟩ (.int .u64 (H' : Nat))).setCell ⟨g7, 2, none⟩ (.int .i64 mn')).setCell ⟨g7, 3, none⟩ (.int .i64 mx')) = S7 at *
                refine wpAnyH_done (by kernel_rfl) ?_ _
                go_wp2_with fail
                go_meet
                exact ⟨g6, g7, rfl, rfl, ⟨ne.out, b6, b7, (O7.out.2 g6 ne.out).trans P6.out, P7.out⟩, LY.out.1.trans ((O6.out.1.mono b6).trans (O7.out.1.mono b7))⟩
      case rest =>
        obtain ⟨g6, g7, rfl, rfl, tb, bw⟩ := hcut
        clear x0 x1 x2 x3 x4 x5 x6 x7 S0 LY BO BQ BX
        have TB := Lib.hid tb
        have BW := Lib.hid bw
        clear tb bw
        obtain ⟨kk0, kk1, kk2, kk3, _⟩ := TB.out.2.2.2.2.facts
        have XU := Lib.hid (xor_u64 H' hL4.out)
        go_wp2_with (first | (go_at_call 47; clear kk0 kk1 kk2 kk3; refine (into_any g6 L H mn mx L' _ TB.out.2.2.2.1 hL1.out hL3.out).mono ?_; rintro e z1 ⟨rfl, b, o⟩; have TB := Lib.hid (TB.out.step b o); have BW := Lib.hid (BW.out.trans (o.1.mono TB.out.2.1)); obtain ⟨kk0, kk1, kk2, kk3, _⟩ := TB.out.2.2.2.2.facts; clear b o) | (go_at_call 48; clear kk0 kk1 kk2 kk3; rw [XU.out]; refine (out_any g6 (L ||| L') H mn mx (18446744073709551615 - H') _ TB.out.2.2.2.1 hL2.out (by clear TB BW; omega)).mono ?_; rintro e z2 ⟨rfl, b, o⟩; rw [and_self64 hL4.out] at b; have TB := Lib.hid (TB.out.step b o); have BW := Lib.hid (BW.out.trans (o.1.mono TB.out.2.1)); obtain ⟨kk0, kk1, kk2, kk3, _⟩ := TB.out.2.2.2.2.facts; clear b o) | (go_at_call 49; clear kk0 kk1 kk2 kk3; refine (atLeast_any g6 (L ||| L') (H &&& H') mn mx mn' _ TB.out.2.2.2.1).mono ?_; rintro e z3 ⟨rfl, b, o⟩; have TB := Lib.hid (TB.out.step b o); have BW := Lib.hid (BW.out.trans (o.1.mono TB.out.2.1)); obtain ⟨kk0, kk1, kk2, kk3, _⟩ := TB.out.2.2.2.2.facts; clear b o) | (go_at_call 50; clear kk0 kk1 kk2 kk3; refine (atMost_any g6 (L ||| L') (H &&& H') (max mn mn') mx mx' _ TB.out.2.2.2.1).mono ?_; rintro e z4 ⟨rfl, b, o⟩; have TB := Lib.hid (TB.out.step b o); have BW := Lib.hid (BW.out.trans (o.1.mono TB.out.2.1)); obtain ⟨kk0, kk1, kk2, kk3, _⟩ := TB.out.2.2.2.1.facts; clear b o))
        clear XU hL2 hL4
        have hw3 : w.heap.size + 3 ≤ z4.heap.size := by have := BW.out.size; omega
        have BZ := Lib.hid (show Below w.heap.size w z4 from B2.out.trans (BW.out.mono (by omega)))
        have TZ := Lib.hid (HT.out.below BZ.out hw0)
        have HZ := Lib.hid (H2.out.trans BW.out)
        have PN := Lib.hid (pnormal_any (L ||| L') (H &&& H') (max mn mn') (min mx mx') z4 (or_lt hL1.out hL3.out) (Nat.lt_of_le_of_lt Nat.and_le_left HLT.out) TZ.out)
        clear TB BW TZ hL1 hL3 kk0 kk1 kk2 kk3 HLT
        generalize L ||| L' = LL at *
        generalize H &&& H' = HH at *
        generalize max mn mn' = MN at *
        generalize min mx mx' = MX at *
        cases hK : okN LL HH MN MX with
        | false =>
          rw [hK] at PN
          simp only [Bool.false_eq_true, if_false] at PN
          go_wp2_with ((go_at_call 32; refine PN.out.mono ?_; rintro e z5 ⟨rfl, hb⟩; have B5 := Lib.hid (BZ.out.trans (hb.mono (by omega))); have F5 := Lib.hid (show famCells z5 (w.heap.size + 1 + 1) from ((HZ.out.trans (hb.mono hw3)).block _ (by omega)).trans BF.out); obtain ⟨q0, q1, q2, q3, fz⟩ := famCells_facts F5.out; clear hb PN))
          clear q0 q1 q2 q3 fz
          have hz0 := heap_setCell_same _ (w.heap.size + 1 + 1) 0 _ _ (.slice none 0 0) F5.out
          have hz1 := heap_setCell_same _ (w.heap.size + 1 + 1) 1 _ _ (.slice none 0 0) hz0
          have hz2 := heap_setCell_same _ (w.heap.size + 1 + 1) 2 _ _ (.int .i64 0) hz1
          have hz3 := heap_setCell_same _ (w.heap.size + 1 + 1) 3 _ _ (.int .i64 0) hz2
          have bz := (((((Below.refl (w.heap.size + 1 + 1) z5).setCell (p := ⟨w.heap.size + 1 + 1, 0, none⟩) (Nat.le_refl _) (.slice none 0 0)).setCell (p := ⟨w.heap.size + 1 + 1, 1, none⟩) (Nat.le_refl _) (.slice none 0 0)).setCell (p := ⟨w.heap.size + 1 + 1, 2, none⟩) (Nat.le_refl _) (.int .i64 0)).setCell (p := ⟨w.heap.size + 1 + 1, 3, none⟩) (Nat.le_refl _) (.int .i64 0))
          have oz : ∀ k, k ≠ w.heap.size + 1 + 1 → ((((z5.setCell ⟨w.heap.size + 1 + 1, 0, none⟩ (.slice none 0 0)).setCell ⟨w.heap.size + 1 + 1, 1, none⟩ (.slice none 0 0)).setCell ⟨w.heap.size + 1 + 1, 2, none⟩ (.int .i64 0)).setCell ⟨w.heap.size + 1 + 1, 3, none⟩ (.int .i64 0)).heap[k]? = z5.heap[k]? := fun k hk => (Below.heap_setCell _ _ _ k hk).trans ((Below.heap_setCell _ _ _ k hk).trans ((Below.heap_setCell _ _ _ k hk).trans (Below.heap_setCell _ _ _ k hk)))
          refine bodyPost_ret (v := .tuple #[.agg #[.slice none 0 0, .slice none 0 0, .int .i64 0, .int .i64 0], .int .i64 60]) (Eq.trans (results_row_tmp (p := 4) (u := 5) rfl _ _ (w.heap.size + 1 + 1) 24 _ (0, 0) _ rfl hz3 Tryd.underlying24 rfl (by kernel_rfl)) rfl) rfl ?_
          unfold MeetRes NormRes
          exact ⟨by rw [if_pos rfl, hK, if_neg Bool.false_ne_true], B5.out.trans (bz.mono (by omega))⟩
        | true =>
          rw [hK] at PN
          simp only [if_true] at PN
          go_wp2_with ((go_at_call 32; refine PN.out.mono ?_; rintro e z5 ⟨⟨v, rfl, fo⟩, hb⟩; obtain ⟨v1, v2, rfl, r1, r2, ap⟩ := fo; obtain ⟨G1, k1, rfl⟩ := r1.1; obtain ⟨G2, k2, rfl⟩ := r2.1; have R1 := Lib.hid r1; have R2 := Lib.hid r2; have AP := Lib.hid ap; clear r1 r2 ap; have B5 := Lib.hid (BZ.out.trans (hb.mono (by omega))); have F5 := Lib.hid (show famCells z5 (w.heap.size + 1 + 1) from ((HZ.out.trans (hb.mono hw3)).block _ (by omega)).trans BF.out); obtain ⟨q0, q1, q2, q3, fz⟩ := famCells_facts F5.out; clear hb PN))
          clear q0 q1 q2 q3 fz
          have hz0 := heap_setCell_same _ (w.heap.size + 1 + 1) 0 _ _ (.slice G1 (bitsOf 64 0 (nlo LL HH MN)).length k1) F5.out
          have hz1 := heap_setCell_same _ (w.heap.size + 1 + 1) 1 _ _ (.slice G2 (bitsOf 64 0 (nhi LL HH MN MX)).length k2) hz0
          have hz2 := heap_setCell_same _ (w.heap.size + 1 + 1) 2 _ _ (.int .i64 (nmn LL MN)) hz1
          have hz3 := heap_setCell_same _ (w.heap.size + 1 + 1) 3 _ _ (.int .i64 (nmx HH MX)) hz2
          have bz := (((((Below.refl (w.heap.size + 1 + 1) z5).setCell (p := ⟨w.heap.size + 1 + 1, 0, none⟩) (Nat.le_refl _) (.slice G1 (bitsOf 64 0 (nlo LL HH MN)).length k1)).setCell (p := ⟨w.heap.size + 1 + 1, 1, none⟩) (Nat.le_refl _) (.slice G2 (bitsOf 64 0 (nhi LL HH MN MX)).length k2)).setCell (p := ⟨w.heap.size + 1 + 1, 2, none⟩) (Nat.le_refl _) (.int .i64 (nmn LL MN))).setCell (p := ⟨w.heap.size + 1 + 1, 3, none⟩) (Nat.le_refl _) (.int .i64 (nmx HH MX)))
          have oz : ∀ k, k ≠ w.heap.size + 1 + 1 → ((((z5.setCell ⟨w.heap.size + 1 + 1, 0, none⟩ (.slice G1 (bitsOf 64 0 (nlo LL HH MN)).length k1)).setCell ⟨w.heap.size + 1 + 1, 1, none⟩ (.slice G2 (bitsOf 64 0 (nhi LL HH MN MX)).length k2)).setCell ⟨w.heap.size + 1 + 1, 2, none⟩ (.int .i64 (nmn LL MN))).setCell ⟨w.heap.size + 1 + 1, 3, none⟩ (.int .i64 (nmx HH MX))).heap[k]? = z5.heap[k]? := fun k hk => (Below.heap_setCell _ _ _ k hk).trans ((Below.heap_setCell _ _ _ k hk).trans ((Below.heap_setCell _ _ _ k hk).trans (Below.heap_setCell _ _ _ k hk)))
          refine bodyPost_ret (v := .tuple #[.agg #[.slice G1 (bitsOf 64 0 (nlo LL HH MN)).length k1, .slice G2 (bitsOf 64 0 (nhi LL HH MN MX)).length k2, .int .i64 (nmn LL MN), .int .i64 (nmx HH MX)], .int .i64 0]) (Eq.trans (results_row_tmp (p := 4) (u := 5) rfl _ _ (w.heap.size + 1 + 1) 24 _ (0, 0) _ rfl hz3 Tryd.underlying24 rfl (by kernel_rfl)) rfl) rfl ?_
          unfold MeetRes NormRes
          refine ⟨?_, B5.out.trans (bz.mono (by omega))⟩
          rw [if_pos rfl, if_pos hK]
          refine ⟨_, rfl, _, _, rfl, R1.out.past (fun b hb => oz b ?_) (by omega), R2.out.past (fun b hb => oz b ?_) (by omega), AP.out⟩
          · have := (R1.out.lt hb).1; omega
          · have := (R2.out.lt hb).1; omega
end Go.Proofs.YthakhdbakmlooaaDoor
