/-
  Which sets a family stands for: the program's Has.
-/
import Derived.Test.YthakhdbakmlooaaDoorKaJ
namespace Go.Proofs.YthakhdbakmlooaaDoor
set_option linter.unusedSimpArgs false
open Go Go.RowKit Go.Shelf Go.Ev

def hasFB (lo hi : List Int) (mn mx : Int) (s : List Int) : Bool :=
  validFB lo hi mn mx && (elemsB s && (decide (sub64 (setN lo) (setN s) = 0) && (decide (sub64 (setN s) (setN hi) = 0) && (decide (mn ≤ s.length) && decide ((s.length : Int) ≤ mx)))))
set_option maxRecDepth 100000 in
set_option maxHeartbeats 8000000 in
theorem Has_fp_any (lo hi : List Int) (mn mx : Int) (s : List Int) (A B C : Option Addr) (c1 c2 c3 : Nat) (w : World) (ha : Ints w A lo) (hb : Ints w B hi) (hs : Ints w C s) :
    Calls Tryd.prog 19 #[.agg #[.slice A lo.length c1, .slice B hi.length c2, .int .i64 mn, .int .i64 mx], .slice C s.length c3] w fun e w' => e = .returned (.bool (hasFB lo hi mn mx s)) ∧ Below w.heap.size w w' := by
  have VP := Lib.hid (fun w1 (h : Below w.heap.size w w1) => FValid_p_any lo hi mn mx A B c1 c2 w1 (ha.over h) (hb.over h))
  have ES := Lib.hid (fun w1 (h : Below w.heap.size w w1) => areElements_any s C c3 w1 (hs.over h))
  have VL := Lib.hid (show validFB lo hi mn mx = true → lo.all inR = true ∧ hi.all inR = true from fun h => by
    unfold validFB elemsB at h
    simp only [Bool.and_eq_true] at h
    exact ⟨h.1.1.1.2, h.1.1.2.2⟩)
  have SL := Lib.hid (show elemsB s = true → s.all inR = true from fun h => by
    unfold elemsB at h
    rw [Bool.and_eq_true] at h
    exact h.2)
  have BO := Lib.hid (fun (h1 : lo.all inR = true) (h2 : hi.all inR = true) w1 (h : Below w.heap.size w w1) => boundsOf_any lo hi mn mx A B c1 c2 w1 (ha.over h) (hb.over h) h1 h2)
  have SO := Lib.hid (fun (h1 : s.all inR = true) w1 (h : Below w.heap.size w w1) => fsetOf_any s C c3 w1 (hs.over h) h1)
  have I1 := Lib.hid (fun (h1 : lo.all inR = true) (h2 : s.all inR = true) w1 => isIn_any (setN lo) (setN s) w1 (setN_lt h1) (setN_lt h2))
  have I2 := Lib.hid (fun (h1 : s.all inR = true) (h2 : hi.all inR = true) w1 => isIn_any (setN s) (setN hi) w1 (setN_lt h1) (setN_lt h2))
  have hl1 := ha.1
  have hl2 := hb.1
  have hl3 := hs.1
  clear ha hb hs
  unfold hasFB
  generalize lo.length = n1 at *
  generalize hi.length = n2 at *
  generalize s.length = n3 at *
  have BA := Lib.hid (show Below w.heap.size w (w.alloc (.cells #[.slice A n1 c1, .slice B n2 c2, .int .i64 mn, .int .i64 mx] 24)) from (Below.refl _ w).alloc (Nat.le_refl _) _)
  have BX := Lib.hid (show ∀ wx, Below (w.heap.size + 1) (w.alloc (.cells #[.slice A n1 c1, .slice B n2 c2, .int .i64 mn, .int .i64 mx] 24)) wx → wx.cell? ⟨w.heap.size, 0, none⟩ = some (.slice A n1 c1) ∧ wx.cell? ⟨w.heap.size, 1, none⟩ = some (.slice B n2 c2) ∧ wx.cell? ⟨w.heap.size, 2, none⟩ = some (.int .i64 mn) ∧ wx.cell? ⟨w.heap.size, 3, none⟩ = some (.int .i64 mx) from fun wx h => by
    have hh := (h.block w.heap.size (by omega)).trans (heap_alloc_new w (.cells #[.slice A n1 c1, .slice B n2 c2, .int .i64 mn, .int .i64 mx] 24))
    refine ⟨?_, ?_, ?_, ?_⟩ <;> (simp only [World.cell?, hh]; rfl))
  cases hV : validFB lo hi mn mx with
  | false =>
    rw [hV] at VP
    simp only [Bool.false_and]
    clear BO SO I1 I2 ES VL SL hV
    go_enter Tryd.func19, Tryd.ntmps19
    go_wp2_with (first | (go_at_call 15; refine (VP.out _ BA.out).mono ?_; rintro e y1 ⟨rfl, hb⟩; have H1 := Lib.hid (show Below (w.heap.size + 1) _ _ from hb.mono (by simp)); have B1 := Lib.hid (BA.out.trans (hb.mono BA.out.size)); obtain ⟨x0, x1, x2, x3⟩ := BX.out _ H1.out; clear hb VP))
    go_ret
    exact ⟨rfl, B1.out⟩
  | true =>
    obtain ⟨hr1, hr2⟩ := VL.out hV
    rw [hV] at VP
    simp only [Bool.true_and]
    clear VL hV
    cases hE : elemsB s with
    | false =>
      rw [hE] at ES
      simp only [Bool.false_and]
      clear BO SO I1 I2 SL hE hr1 hr2
      go_enter Tryd.func19, Tryd.ntmps19
      go_wp2_with (first | (go_at_call 15; refine (VP.out _ BA.out).mono ?_; rintro e y1 ⟨rfl, hb⟩; have H1 := Lib.hid (show Below (w.heap.size + 1) _ _ from hb.mono (by simp)); have B1 := Lib.hid (BA.out.trans (hb.mono BA.out.size)); obtain ⟨x0, x1, x2, x3⟩ := BX.out _ H1.out; clear hb VP) | (go_at_call 41; clear x0 x1 x2 x3; refine (ES.out _ B1.out).mono ?_; rintro e y2 ⟨rfl, hb⟩; have H2 := Lib.hid (H1.out.trans (hb.mono (by have := H1.out.size; simp at this; omega))); have B1 := Lib.hid (B1.out.trans (hb.mono B1.out.size)); obtain ⟨x0, x1, x2, x3⟩ := BX.out _ H2.out; clear hb ES))
      go_ret
      exact ⟨rfl, B1.out⟩
    | true =>
      have hr3 := SL.out hE
      rw [hE] at ES
      simp only [Bool.true_and]
      have BO := Lib.hid (BO.out hr1 hr2)
      have SO := Lib.hid (SO.out hr3)
      have I1 := Lib.hid (I1.out hr1 hr3)
      have I2 := Lib.hid (I2.out hr3 hr2)
      clear SL hE hr1 hr2 hr3
      generalize decide (sub64 (setN lo) (setN s) = 0) = D1 at *
      generalize decide (sub64 (setN s) (setN hi) = 0) = D2 at *
      generalize setN lo = L at *
      generalize setN hi = H at *
      generalize setN s = T at *
      cases D1 with
      | false =>
        simp only [Bool.false_and]
        go_enter Tryd.func19, Tryd.ntmps19
        go_wp2_with (first | (go_at_call 15; refine (VP.out _ BA.out).mono ?_; rintro e y1 ⟨rfl, hb⟩; have H1 := Lib.hid (show Below (w.heap.size + 1) _ _ from hb.mono (by simp)); have B1 := Lib.hid (BA.out.trans (hb.mono BA.out.size)); obtain ⟨x0, x1, x2, x3⟩ := BX.out _ H1.out; clear hb VP) | (go_at_call 41; clear x0 x1 x2 x3; refine (ES.out _ B1.out).mono ?_; rintro e y2 ⟨rfl, hb⟩; have H2 := Lib.hid (H1.out.trans (hb.mono (by have := H1.out.size; simp at this; omega))); have B1 := Lib.hid (B1.out.trans (hb.mono B1.out.size)); obtain ⟨x0, x1, x2, x3⟩ := BX.out _ H2.out; clear hb ES) | (go_at_call 31; refine (BO.out _ B1.out).mono ?_; rintro e y3 ⟨rfl, hb⟩; clear x0 x1 x2 x3; have B1 := Lib.hid (B1.out.trans (hb.mono B1.out.size)); have BZ := Lib.hid (fun o => B1.out.alloc B1.out.size o); clear hb BO) | (go_at_call 45; refine (SO.out _ B1.out).mono ?_; rintro e y4 ⟨rfl, rfl⟩; clear SO) | (go_at_call 46; refine (I1.out _).mono ?_; rintro e y5 ⟨rfl, rfl⟩; clear I1))
        go_ret
        exact ⟨by first | rfl | simp_all, BZ.out _⟩
      | true =>
        cases D2 with
        | false =>
          simp only [Bool.true_and, Bool.false_and]
          go_enter Tryd.func19, Tryd.ntmps19
          go_wp2_with (first | (go_at_call 15; refine (VP.out _ BA.out).mono ?_; rintro e y1 ⟨rfl, hb⟩; have H1 := Lib.hid (show Below (w.heap.size + 1) _ _ from hb.mono (by simp)); have B1 := Lib.hid (BA.out.trans (hb.mono BA.out.size)); obtain ⟨x0, x1, x2, x3⟩ := BX.out _ H1.out; clear hb VP) | (go_at_call 41; clear x0 x1 x2 x3; refine (ES.out _ B1.out).mono ?_; rintro e y2 ⟨rfl, hb⟩; have H2 := Lib.hid (H1.out.trans (hb.mono (by have := H1.out.size; simp at this; omega))); have B1 := Lib.hid (B1.out.trans (hb.mono B1.out.size)); obtain ⟨x0, x1, x2, x3⟩ := BX.out _ H2.out; clear hb ES) | (go_at_call 31; refine (BO.out _ B1.out).mono ?_; rintro e y3 ⟨rfl, hb⟩; clear x0 x1 x2 x3; have B1 := Lib.hid (B1.out.trans (hb.mono B1.out.size)); have BZ := Lib.hid (fun o => B1.out.alloc B1.out.size o); clear hb BO) | (go_at_call 45; refine (SO.out _ B1.out).mono ?_; rintro e y4 ⟨rfl, rfl⟩; clear SO) | (go_at_call 46; refine (I1.out _).mono ?_; rintro e y5 ⟨rfl, rfl⟩; clear I1) | (go_at_call 46; refine (I2.out _).mono ?_; rintro e y6 ⟨rfl, rfl⟩; clear I2))
          go_ret
          exact ⟨by first | rfl | simp_all, BZ.out _⟩
        | true =>
          simp only [Bool.true_and]
          by_cases k1 : mn ≤ (n3 : Int)
          · by_cases k2 : (n3 : Int) ≤ mx
            · rw [decide_eq_true k1, decide_eq_true k2]
              go_enter Tryd.func19, Tryd.ntmps19
              go_wp2_with (first | (go_at_call 15; refine (VP.out _ BA.out).mono ?_; rintro e y1 ⟨rfl, hb⟩; have H1 := Lib.hid (show Below (w.heap.size + 1) _ _ from hb.mono (by simp)); have B1 := Lib.hid (BA.out.trans (hb.mono BA.out.size)); obtain ⟨x0, x1, x2, x3⟩ := BX.out _ H1.out; clear hb VP) | (go_at_call 41; clear x0 x1 x2 x3; refine (ES.out _ B1.out).mono ?_; rintro e y2 ⟨rfl, hb⟩; have H2 := Lib.hid (H1.out.trans (hb.mono (by have := H1.out.size; simp at this; omega))); have B1 := Lib.hid (B1.out.trans (hb.mono B1.out.size)); obtain ⟨x0, x1, x2, x3⟩ := BX.out _ H2.out; clear hb ES) | (go_at_call 31; refine (BO.out _ B1.out).mono ?_; rintro e y3 ⟨rfl, hb⟩; clear x0 x1 x2 x3; have B1 := Lib.hid (B1.out.trans (hb.mono B1.out.size)); have BZ := Lib.hid (fun o => B1.out.alloc B1.out.size o); clear hb BO) | (go_at_call 45; refine (SO.out _ B1.out).mono ?_; rintro e y4 ⟨rfl, rfl⟩; clear SO) | (go_at_call 46; refine (I1.out _).mono ?_; rintro e y5 ⟨rfl, rfl⟩; clear I1) | (go_at_call 46; refine (I2.out _).mono ?_; rintro e y6 ⟨rfl, rfl⟩; clear I2))
              go_ret
              exact ⟨by first | rfl | simp_all, BZ.out _⟩
            · rw [decide_eq_true k1, decide_eq_false k2]
              go_enter Tryd.func19, Tryd.ntmps19
              go_wp2_with (first | (go_at_call 15; refine (VP.out _ BA.out).mono ?_; rintro e y1 ⟨rfl, hb⟩; have H1 := Lib.hid (show Below (w.heap.size + 1) _ _ from hb.mono (by simp)); have B1 := Lib.hid (BA.out.trans (hb.mono BA.out.size)); obtain ⟨x0, x1, x2, x3⟩ := BX.out _ H1.out; clear hb VP) | (go_at_call 41; clear x0 x1 x2 x3; refine (ES.out _ B1.out).mono ?_; rintro e y2 ⟨rfl, hb⟩; have H2 := Lib.hid (H1.out.trans (hb.mono (by have := H1.out.size; simp at this; omega))); have B1 := Lib.hid (B1.out.trans (hb.mono B1.out.size)); obtain ⟨x0, x1, x2, x3⟩ := BX.out _ H2.out; clear hb ES) | (go_at_call 31; refine (BO.out _ B1.out).mono ?_; rintro e y3 ⟨rfl, hb⟩; clear x0 x1 x2 x3; have B1 := Lib.hid (B1.out.trans (hb.mono B1.out.size)); have BZ := Lib.hid (fun o => B1.out.alloc B1.out.size o); clear hb BO) | (go_at_call 45; refine (SO.out _ B1.out).mono ?_; rintro e y4 ⟨rfl, rfl⟩; clear SO) | (go_at_call 46; refine (I1.out _).mono ?_; rintro e y5 ⟨rfl, rfl⟩; clear I1) | (go_at_call 46; refine (I2.out _).mono ?_; rintro e y6 ⟨rfl, rfl⟩; clear I2))
              go_ret
              exact ⟨by first | rfl | simp_all, BZ.out _⟩
          · rw [decide_eq_false k1]
            go_enter Tryd.func19, Tryd.ntmps19
            go_wp2_with (first | (go_at_call 15; refine (VP.out _ BA.out).mono ?_; rintro e y1 ⟨rfl, hb⟩; have H1 := Lib.hid (show Below (w.heap.size + 1) _ _ from hb.mono (by simp)); have B1 := Lib.hid (BA.out.trans (hb.mono BA.out.size)); obtain ⟨x0, x1, x2, x3⟩ := BX.out _ H1.out; clear hb VP) | (go_at_call 41; clear x0 x1 x2 x3; refine (ES.out _ B1.out).mono ?_; rintro e y2 ⟨rfl, hb⟩; have H2 := Lib.hid (H1.out.trans (hb.mono (by have := H1.out.size; simp at this; omega))); have B1 := Lib.hid (B1.out.trans (hb.mono B1.out.size)); obtain ⟨x0, x1, x2, x3⟩ := BX.out _ H2.out; clear hb ES) | (go_at_call 31; refine (BO.out _ B1.out).mono ?_; rintro e y3 ⟨rfl, hb⟩; clear x0 x1 x2 x3; have B1 := Lib.hid (B1.out.trans (hb.mono B1.out.size)); have BZ := Lib.hid (fun o => B1.out.alloc B1.out.size o); clear hb BO) | (go_at_call 45; refine (SO.out _ B1.out).mono ?_; rintro e y4 ⟨rfl, rfl⟩; clear SO) | (go_at_call 46; refine (I1.out _).mono ?_; rintro e y5 ⟨rfl, rfl⟩; clear I1) | (go_at_call 46; refine (I2.out _).mono ?_; rintro e y6 ⟨rfl, rfl⟩; clear I2))
            go_ret
            exact ⟨by first | rfl | simp_all, BZ.out _⟩
end Go.Proofs.YthakhdbakmlooaaDoor

/-
  Which sets a family stands for: the document's Has.
-/
namespace Go.Proofs.YthakhdbakmlooaaDoor
set_option linter.unusedSimpArgs false
open Go Go.RowKit Go.Shelf Go.Ev

set_option maxRecDepth 100000 in
set_option maxHeartbeats 8000000 in
theorem Has_fr_any (lo hi : List Int) (mn mx : Int) (s : List Int) (A B C : Option Addr) (c1 c2 c3 : Nat) (w : World) (ha : Ints w A lo) (hb : Ints w B hi) (hs : Ints w C s) :
    Calls Tryd.prog 20 #[.agg #[.slice A lo.length c1, .slice B hi.length c2, .int .i64 mn, .int .i64 mx], .slice C s.length c3] w fun e w' => e = .returned (.bool (hasFB lo hi mn mx s)) ∧ Below w.heap.size w w' := by
  have VP := Lib.hid (fun w1 (h : Below w.heap.size w w1) => FValid_r_any lo hi mn mx A B c1 c2 w1 (ha.over h) (hb.over h))
  have ES := Lib.hid (fun w1 (h : Below w.heap.size w w1) => numbers_any s C c3 w1 (hs.over h))
  have VL := Lib.hid (show validFB lo hi mn mx = true → lo.all inR = true ∧ hi.all inR = true from fun h => by
    unfold validFB elemsB at h
    simp only [Bool.and_eq_true] at h
    exact ⟨h.1.1.1.2, h.1.1.2.2⟩)
  have SL := Lib.hid (show elemsB s = true → s.all inR = true from fun h => by
    unfold elemsB at h
    rw [Bool.and_eq_true] at h
    exact h.2)
  have SO := Lib.hid (fun (h1 : s.all inR = true) w1 (h : Below w.heap.size w w1) => rof_any s C c3 w1 (hs.over h) h1)
  have S1 := Lib.hid (fun (h1 : lo.all inR = true) w1 (h : Below w.heap.size w w1) => rof_any lo A c1 w1 (ha.over h) h1)
  have S2 := Lib.hid (fun (h1 : hi.all inR = true) w1 (h : Below w.heap.size w w1) => rof_any hi B c2 w1 (hb.over h) h1)
  have E1 := Lib.hid (show ∀ a b : Nat, a < 18446744073709551616 → b < 18446744073709551616 → (bits .andNot .u64 (a : Int) (b : Int) == 0) = decide (sub64 a b = 0) from fun a b h1 h2 => by
    rw [show bits .andNot .u64 (a : Int) (b : Int) = ((sub64 a b : Nat) : Int) from andNot_u64 a b h1 h2, Bool.eq_iff_iff, beq_iff_eq, decide_eq_true_eq]; omega)
  have hl1 := ha.1
  have hl2 := hb.1
  have hl3 := hs.1
  clear ha hb hs
  unfold hasFB
  generalize lo.length = n1 at *
  generalize hi.length = n2 at *
  generalize s.length = n3 at *
  have BA := Lib.hid (show Below w.heap.size w (w.alloc (.cells #[.slice A n1 c1, .slice B n2 c2, .int .i64 mn, .int .i64 mx] 24)) from (Below.refl _ w).alloc (Nat.le_refl _) _)
  have BX := Lib.hid (show ∀ wx, Below (w.heap.size + 1) (w.alloc (.cells #[.slice A n1 c1, .slice B n2 c2, .int .i64 mn, .int .i64 mx] 24)) wx → wx.cell? ⟨w.heap.size, 0, none⟩ = some (.slice A n1 c1) ∧ wx.cell? ⟨w.heap.size, 1, none⟩ = some (.slice B n2 c2) ∧ wx.cell? ⟨w.heap.size, 2, none⟩ = some (.int .i64 mn) ∧ wx.cell? ⟨w.heap.size, 3, none⟩ = some (.int .i64 mx) from fun wx h => by
    have hh := (h.block w.heap.size (by omega)).trans (heap_alloc_new w (.cells #[.slice A n1 c1, .slice B n2 c2, .int .i64 mn, .int .i64 mx] 24))
    refine ⟨?_, ?_, ?_, ?_⟩ <;> (simp only [World.cell?, hh]; rfl))
  cases hV : validFB lo hi mn mx with
  | false =>
    rw [hV] at VP
    simp only [Bool.false_and]
    clear SO S1 S2 E1 ES VL SL hV
    go_enter Tryd.func20, Tryd.ntmps20
    go_wp2_with (first | (go_at_call 16; refine (VP.out _ BA.out).mono ?_; rintro e y1 ⟨rfl, hb⟩; have H1 := Lib.hid (show Below (w.heap.size + 1) _ _ from hb.mono (by simp)); have B1 := Lib.hid (BA.out.trans (hb.mono BA.out.size)); obtain ⟨x0, x1, x2, x3⟩ := BX.out _ H1.out; clear hb VP))
    go_ret
    exact ⟨rfl, B1.out⟩
  | true =>
    obtain ⟨hr1, hr2⟩ := VL.out hV
    rw [hV] at VP
    simp only [Bool.true_and]
    clear VL hV
    cases hE : elemsB s with
    | false =>
      rw [hE] at ES
      simp only [Bool.false_and]
      clear SO S1 S2 E1 SL hE hr1 hr2
      go_enter Tryd.func20, Tryd.ntmps20
      go_wp2_with (first | (go_at_call 16; refine (VP.out _ BA.out).mono ?_; rintro e y1 ⟨rfl, hb⟩; have H1 := Lib.hid (show Below (w.heap.size + 1) _ _ from hb.mono (by simp)); have B1 := Lib.hid (BA.out.trans (hb.mono BA.out.size)); obtain ⟨x0, x1, x2, x3⟩ := BX.out _ H1.out; clear hb VP) | (go_at_call 43; clear x0 x1 x2 x3; refine (ES.out _ B1.out).mono ?_; rintro e y2 ⟨rfl, hb⟩; have H2 := Lib.hid (H1.out.trans (hb.mono (by have := H1.out.size; simp at this; omega))); have B1 := Lib.hid (B1.out.trans (hb.mono B1.out.size)); obtain ⟨x0, x1, x2, x3⟩ := BX.out _ H2.out; clear hb ES))
      go_ret
      exact ⟨rfl, B1.out⟩
    | true =>
      have hr3 := SL.out hE
      rw [hE] at ES
      simp only [Bool.true_and]
      have SO := Lib.hid (SO.out hr3)
      have S1 := Lib.hid (S1.out hr1)
      have S2 := Lib.hid (S2.out hr2)
      have e1 := E1.out (setN lo) (setN s) (setN_lt hr1) (setN_lt hr3)
      have e2 := E1.out (setN s) (setN hi) (setN_lt hr3) (setN_lt hr2)
      clear E1
      clear SL hE hr1 hr2 hr3
      generalize decide (sub64 (setN lo) (setN s) = 0) = D1 at *
      generalize decide (sub64 (setN s) (setN hi) = 0) = D2 at *
      generalize setN lo = L at *
      generalize setN hi = H at *
      generalize setN s = T at *
      cases D1 with
      | false =>
        simp only [Bool.false_and]
        go_enter Tryd.func20, Tryd.ntmps20
        go_wp2_with (first | (go_at_call 16; refine (VP.out _ BA.out).mono ?_; rintro e y1 ⟨rfl, hb⟩; have H1 := Lib.hid (show Below (w.heap.size + 1) _ _ from hb.mono (by simp)); have B1 := Lib.hid (BA.out.trans (hb.mono BA.out.size)); obtain ⟨x0, x1, x2, x3⟩ := BX.out _ H1.out; clear hb VP) | (go_at_call 43; clear x0 x1 x2 x3; refine (ES.out _ B1.out).mono ?_; rintro e y2 ⟨rfl, hb⟩; have H2 := Lib.hid (H1.out.trans (hb.mono (by have := H1.out.size; simp at this; omega))); have B1 := Lib.hid (B1.out.trans (hb.mono B1.out.size)); obtain ⟨x0, x1, x2, x3⟩ := BX.out _ H2.out; clear hb ES) | (go_at_call 36; refine (SO.out _ B1.out).mono ?_; rintro e y4 ⟨rfl, rfl⟩; clear SO) | (go_at_call 36; refine (S1.out _ B1.out).mono ?_; rintro e y5 ⟨rfl, rfl⟩; clear S1))
        go_ret
        exact ⟨by first | rfl | simp_all, B1.out⟩
      | true =>
        cases D2 with
        | false =>
          simp only [Bool.true_and, Bool.false_and]
          go_enter Tryd.func20, Tryd.ntmps20
          go_wp2_with (first | (go_at_call 16; refine (VP.out _ BA.out).mono ?_; rintro e y1 ⟨rfl, hb⟩; have H1 := Lib.hid (show Below (w.heap.size + 1) _ _ from hb.mono (by simp)); have B1 := Lib.hid (BA.out.trans (hb.mono BA.out.size)); obtain ⟨x0, x1, x2, x3⟩ := BX.out _ H1.out; clear hb VP) | (go_at_call 43; clear x0 x1 x2 x3; refine (ES.out _ B1.out).mono ?_; rintro e y2 ⟨rfl, hb⟩; have H2 := Lib.hid (H1.out.trans (hb.mono (by have := H1.out.size; simp at this; omega))); have B1 := Lib.hid (B1.out.trans (hb.mono B1.out.size)); obtain ⟨x0, x1, x2, x3⟩ := BX.out _ H2.out; clear hb ES) | (go_at_call 36; refine (SO.out _ B1.out).mono ?_; rintro e y4 ⟨rfl, rfl⟩; clear SO) | (go_at_call 36; refine (S1.out _ B1.out).mono ?_; rintro e y5 ⟨rfl, rfl⟩; clear S1) | (go_at_call 36; refine (S2.out _ B1.out).mono ?_; rintro e y6 ⟨rfl, rfl⟩; clear S2))
          go_ret
          exact ⟨by first | rfl | simp_all, B1.out⟩
        | true =>
          simp only [Bool.true_and]
          by_cases k1 : mn ≤ (n3 : Int)
          · by_cases k2 : (n3 : Int) ≤ mx
            · rw [decide_eq_true k1, decide_eq_true k2]
              go_enter Tryd.func20, Tryd.ntmps20
              go_wp2_with (first | (go_at_call 16; refine (VP.out _ BA.out).mono ?_; rintro e y1 ⟨rfl, hb⟩; have H1 := Lib.hid (show Below (w.heap.size + 1) _ _ from hb.mono (by simp)); have B1 := Lib.hid (BA.out.trans (hb.mono BA.out.size)); obtain ⟨x0, x1, x2, x3⟩ := BX.out _ H1.out; clear hb VP) | (go_at_call 43; clear x0 x1 x2 x3; refine (ES.out _ B1.out).mono ?_; rintro e y2 ⟨rfl, hb⟩; have H2 := Lib.hid (H1.out.trans (hb.mono (by have := H1.out.size; simp at this; omega))); have B1 := Lib.hid (B1.out.trans (hb.mono B1.out.size)); obtain ⟨x0, x1, x2, x3⟩ := BX.out _ H2.out; clear hb ES) | (go_at_call 36; refine (SO.out _ B1.out).mono ?_; rintro e y4 ⟨rfl, rfl⟩; clear SO) | (go_at_call 36; refine (S1.out _ B1.out).mono ?_; rintro e y5 ⟨rfl, rfl⟩; clear S1) | (go_at_call 36; refine (S2.out _ B1.out).mono ?_; rintro e y6 ⟨rfl, rfl⟩; clear S2))
              go_ret
              exact ⟨by first | rfl | simp_all, B1.out⟩
            · rw [decide_eq_true k1, decide_eq_false k2]
              go_enter Tryd.func20, Tryd.ntmps20
              go_wp2_with (first | (go_at_call 16; refine (VP.out _ BA.out).mono ?_; rintro e y1 ⟨rfl, hb⟩; have H1 := Lib.hid (show Below (w.heap.size + 1) _ _ from hb.mono (by simp)); have B1 := Lib.hid (BA.out.trans (hb.mono BA.out.size)); obtain ⟨x0, x1, x2, x3⟩ := BX.out _ H1.out; clear hb VP) | (go_at_call 43; clear x0 x1 x2 x3; refine (ES.out _ B1.out).mono ?_; rintro e y2 ⟨rfl, hb⟩; have H2 := Lib.hid (H1.out.trans (hb.mono (by have := H1.out.size; simp at this; omega))); have B1 := Lib.hid (B1.out.trans (hb.mono B1.out.size)); obtain ⟨x0, x1, x2, x3⟩ := BX.out _ H2.out; clear hb ES) | (go_at_call 36; refine (SO.out _ B1.out).mono ?_; rintro e y4 ⟨rfl, rfl⟩; clear SO) | (go_at_call 36; refine (S1.out _ B1.out).mono ?_; rintro e y5 ⟨rfl, rfl⟩; clear S1) | (go_at_call 36; refine (S2.out _ B1.out).mono ?_; rintro e y6 ⟨rfl, rfl⟩; clear S2))
              go_ret
              exact ⟨by first | rfl | simp_all, B1.out⟩
          · rw [decide_eq_false k1]
            go_enter Tryd.func20, Tryd.ntmps20
            go_wp2_with (first | (go_at_call 16; refine (VP.out _ BA.out).mono ?_; rintro e y1 ⟨rfl, hb⟩; have H1 := Lib.hid (show Below (w.heap.size + 1) _ _ from hb.mono (by simp)); have B1 := Lib.hid (BA.out.trans (hb.mono BA.out.size)); obtain ⟨x0, x1, x2, x3⟩ := BX.out _ H1.out; clear hb VP) | (go_at_call 43; clear x0 x1 x2 x3; refine (ES.out _ B1.out).mono ?_; rintro e y2 ⟨rfl, hb⟩; have H2 := Lib.hid (H1.out.trans (hb.mono (by have := H1.out.size; simp at this; omega))); have B1 := Lib.hid (B1.out.trans (hb.mono B1.out.size)); obtain ⟨x0, x1, x2, x3⟩ := BX.out _ H2.out; clear hb ES) | (go_at_call 36; refine (SO.out _ B1.out).mono ?_; rintro e y4 ⟨rfl, rfl⟩; clear SO) | (go_at_call 36; refine (S1.out _ B1.out).mono ?_; rintro e y5 ⟨rfl, rfl⟩; clear S1) | (go_at_call 36; refine (S2.out _ B1.out).mono ?_; rintro e y6 ⟨rfl, rfl⟩; clear S2))
            go_ret
            exact ⟨by first | rfl | simp_all, B1.out⟩
end Go.Proofs.YthakhdbakmlooaaDoor

/-
  Plain facts of words, their lists and normal forms.
-/
namespace Go.Proofs.YthakhdbakmlooaaDoor
open Go Go.RowKit Go.Ev

/-- a word's numbers as a list -/
def bi (x : Nat) : List Int := (bitsOf 64 0 x).map fun (t : Nat) => (t : Int)
theorem bits_mem {x : Nat} (hx : x < 18446744073709551616) (t : Nat) : t ∈ bitsOf 64 0 x ↔ t < 64 ∧ x.testBit t = true := by
  rw [← bl_all hx]
  simp [bl]
theorem bi_mem {x : Nat} (hx : x < 18446744073709551616) (v : Int) : v ∈ bi x ↔ inR v = true ∧ x.testBit v.toNat = true := by
  unfold bi
  rw [List.mem_map]
  constructor
  · rintro ⟨t, ht, rfl⟩
    rw [bits_mem hx] at ht
    refine ⟨?_, by simpa using ht.2⟩
    simp only [inR, Bool.and_eq_true, decide_eq_true_eq]
    omega
  · rintro ⟨h1, h2⟩
    simp only [inR, Bool.and_eq_true, decide_eq_true_eq] at h1
    exact ⟨v.toNat, (bits_mem hx _).2 ⟨by omega, h2⟩, by omega⟩
theorem bi_pair {x : Nat} (hx : x < 18446744073709551616) : (bi x).Pairwise (· < ·) := by
  unfold bi
  rw [← bl_all hx, List.pairwise_map]
  unfold bl
  refine List.Pairwise.imp ?_ (List.pairwise_lt_range.filter _)
  intro a b h
  omega
theorem bi_len {x : Nat} (hx : x < 18446744073709551616) : (bi x).length = ones x := by
  unfold bi
  rw [List.length_map]
  exact (ones_len 64 0 x hx).symm
theorem asc_of_pair : ∀ {l : List Int}, l.Pairwise (· < ·) → ascB l = true
  | [], _ => rfl
  | [_], _ => rfl
  | x :: y :: r, h => by
    have h1 := List.pairwise_cons.1 h
    rw [ascB, Bool.and_eq_true]
    exact ⟨decide_eq_true (h1.1 y (by simp)), asc_of_pair h1.2⟩
theorem pair_of_asc {xs : List Int} (h : ascB xs = true) : xs.Pairwise (· < ·) := by
  rw [List.pairwise_iff_getElem]
  exact fun i j hi hj hij => ascB_lt h i j hij hj
theorem pair_ext : ∀ {l m : List Int}, l.Pairwise (· < ·) → m.Pairwise (· < ·) → (∀ x, x ∈ l ↔ x ∈ m) → l = m
  | [], [], _, _, _ => rfl
  | [], y :: m, _, _, h => absurd ((h y).2 (by simp)) (by simp)
  | x :: l, [], _, _, h => absurd ((h x).1 (by simp)) (by simp)
  | x :: l, y :: m, hl, hm, h => by
    have l1 := List.pairwise_cons.1 hl
    have m1 := List.pairwise_cons.1 hm
    have e : x = y := by
      have a1 := (h x).1 (by simp)
      have a2 := (h y).2 (by simp)
      rcases List.mem_cons.1 a1 with a1 | a1
      · exact a1
      · rcases List.mem_cons.1 a2 with a2 | a2
        · exact a2.symm
        · have := m1.1 x a1; have := l1.1 y a2; omega
    subst e
    rw [pair_ext l1.2 m1.2 fun z => ?_]
    have hz := h z
    simp only [List.mem_cons] at hz
    constructor
    · intro hzl
      rcases hz.1 (Or.inr hzl) with rfl | h2
      · have := l1.1 z hzl; omega
      · exact h2
    · intro hzm
      rcases hz.2 (Or.inr hzm) with rfl | h2
      · have := m1.1 z hzm; omega
      · exact h2
theorem bi_all {x : Nat} (hx : x < 18446744073709551616) : (bi x).all inR = true := by
  rw [List.all_eq_true]
  exact fun v hv => ((bi_mem hx v).1 hv).1
theorem bi_elems {x : Nat} (hx : x < 18446744073709551616) : elemsB (bi x) = true := by
  unfold elemsB
  rw [asc_of_pair (bi_pair hx), bi_all hx]
  rfl
theorem setN_bi {x : Nat} (hx : x < 18446744073709551616) : setN (bi x) = x := by
  refine Nat.eq_of_testBit_eq fun t => ?_
  rw [setN_test (bi_all hx), Bool.eq_iff_iff, List.contains_iff_mem, bi_mem hx]
  simp only [inR, Bool.and_eq_true, decide_eq_true_eq, Int.toNat_natCast]
  constructor
  · exact fun h => h.2
  · intro h
    refine ⟨⟨by omega, ?_⟩, h⟩
    have : t < 64 := by
      refine Nat.lt_of_not_le fun hn => ?_
      rw [Nat.testBit_lt_two_pow (Nat.lt_of_lt_of_le hx (Nat.pow_le_pow_right (n := 2) (by decide) hn))] at h
      cases h
    omega
theorem elems_all {l : List Int} (h : elemsB l = true) : l.all inR = true := by
  unfold elemsB at h
  rw [Bool.and_eq_true] at h
  exact h.2
theorem elems_asc {l : List Int} (h : elemsB l = true) : ascB l = true := by
  unfold elemsB at h
  rw [Bool.and_eq_true] at h
  exact h.1
theorem bi_setN {l : List Int} (h : elemsB l = true) : bi (setN l) = l := by
  have h2 := elems_all h
  refine pair_ext (bi_pair (setN_lt h2)) (pair_of_asc (elems_asc h)) fun v => ?_
  rw [bi_mem (setN_lt h2), setN_test h2, List.contains_iff_mem]
  constructor
  · rintro ⟨h3, h4⟩
    simp only [inR, Bool.and_eq_true, decide_eq_true_eq] at h3
    rwa [show ((v.toNat : Nat) : Int) = v by omega] at h4
  · intro h3
    have h4 := List.all_eq_true.1 h2 v h3
    refine ⟨h4, ?_⟩
    simp only [inR, Bool.and_eq_true, decide_eq_true_eq] at h4
    rwa [show ((v.toNat : Nat) : Int) = v by omega]
theorem len_setN {l : List Int} (h : elemsB l = true) : l.length = ones (setN l) := by
  rw [← bi_len (setN_lt (elems_all h)), bi_setN h]
theorem setN_inj {l m : List Int} (hl : elemsB l = true) (hm : elemsB m = true) : (setN l = setN m) ↔ l = m :=
  ⟨fun h => by rw [← bi_setN hl, ← bi_setN hm, h], fun h => by rw [h]⟩
theorem sub_bit {a b : Nat} (hb : b < 18446744073709551616) (t : Nat) : (sub64 a b).testBit t = (a.testBit t && (decide (t < 64) && !b.testBit t)) := by
  have e : 18446744073709551615 - b = 2 ^ 64 - (b + 1) := by
    have : (2 : Nat) ^ 64 = 18446744073709551616 := by decide
    omega
  unfold sub64
  rw [Nat.testBit_and, e, Nat.testBit_two_pow_sub_succ (show b < 2 ^ 64 from hb)]
theorem sub_zero {a b : Nat} (ha : a < 18446744073709551616) (hb : b < 18446744073709551616) : sub64 a b = 0 ↔ ∀ t, a.testBit t = true → b.testBit t = true := by
  constructor
  · intro h t ht
    have h1 := sub_bit (a := a) hb t
    rw [h, Nat.zero_testBit, ht] at h1
    have h2 : t < 64 := by
      refine Nat.lt_of_not_le fun hn => ?_
      rw [Nat.testBit_lt_two_pow (Nat.lt_of_lt_of_le ha (Nat.pow_le_pow_right (n := 2) (by decide) hn))] at ht
      cases ht
    rw [decide_eq_true h2] at h1
    cases hb2 : b.testBit t
    · rw [hb2] at h1; cases h1
    · rfl
  · intro h
    refine Nat.eq_of_testBit_eq fun t => ?_
    rw [sub_bit hb, Nat.zero_testBit]
    cases ha2 : a.testBit t
    · rfl
    · rw [h t ha2]; simp
theorem ones_eq {x : Nat} (hx : x < 18446744073709551616) : ones x = (List.range 64).countP fun t => x.testBit t := by
  rw [show ones x = (bitsOf 64 0 x).length from ones_len 64 0 x hx, ← bl_all hx, List.countP_eq_length_filter]
  rfl
theorem countP_le {p q : Nat → Bool} : ∀ (l : List Nat), (∀ t, p t = true → q t = true) → l.countP p ≤ l.countP q
  | [], _ => by simp
  | x :: l, h => by
    have ih := countP_le l h
    rw [List.countP_cons, List.countP_cons]
    cases hp : p x
    · simp only [Bool.false_eq_true, if_false]; omega
    · rw [h x hp]; simp only [if_true]; omega
theorem countP_same {p q : Nat → Bool} : ∀ (l : List Nat), (∀ t, p t = true → q t = true) → l.countP q ≤ l.countP p → ∀ t ∈ l, q t = true → p t = true
  | [], _, _, t, ht, _ => by cases ht
  | x :: l, h, hc, t, ht, hq => by
    have ih := countP_same l h
    have hle := countP_le l h
    rw [List.countP_cons, List.countP_cons] at hc
    cases hpx : p x with
    | true =>
      rw [hpx, h x hpx] at hc
      simp only [if_true] at hc
      rcases List.mem_cons.1 ht with rfl | ht
      · exact hpx
      · exact ih (by omega) t ht hq
    | false =>
      rw [hpx] at hc
      cases hqx : q x with
      | true => rw [hqx] at hc; simp only [if_true, Bool.false_eq_true, if_false] at hc; omega
      | false =>
        rw [hqx] at hc
        simp only [Bool.false_eq_true, if_false] at hc
        rcases List.mem_cons.1 ht with rfl | ht
        · rw [hqx] at hq; cases hq
        · exact ih (by omega) t ht hq
theorem ones_mono {a b : Nat} (ha : a < 18446744073709551616) (hb : b < 18446744073709551616) (h : sub64 a b = 0) : ones a ≤ ones b := by
  rw [ones_eq ha, ones_eq hb]
  exact countP_le _ ((sub_zero ha hb).1 h)
theorem ones_same {a b : Nat} (ha : a < 18446744073709551616) (hb : b < 18446744073709551616) (h : sub64 a b = 0) (hc : ones b ≤ ones a) : a = b := by
  rw [ones_eq ha, ones_eq hb] at hc
  have h1 := (sub_zero ha hb).1 h
  have h2 := countP_same _ h1 hc
  refine Nat.eq_of_testBit_eq fun t => ?_
  by_cases ht : t < 64
  · have h3 := h1 t
    have h4 := h2 t (List.mem_range.2 ht)
    cases p : a.testBit t <;> cases q : b.testBit t <;> simp_all
  · rw [Nat.testBit_lt_two_pow (Nat.lt_of_lt_of_le ha (Nat.pow_le_pow_right (n := 2) (by decide) (show 64 ≤ t by omega))), Nat.testBit_lt_two_pow (Nat.lt_of_lt_of_le hb (Nat.pow_le_pow_right (n := 2) (by decide) (show 64 ≤ t by omega)))]
theorem ones_le64 {x : Nat} (hx : x < 18446744073709551616) : ones x ≤ 64 := by
  rw [ones_eq hx]
  have := List.countP_le_length (p := fun t => x.testBit t) (l := List.range 64)
  simpa using this
theorem sub_self {a : Nat} (ha : a < 18446744073709551616) : sub64 a a = 0 := (sub_zero ha ha).2 fun _ h => h
theorem sub_trans {a b c : Nat} (ha : a < 18446744073709551616) (hb : b < 18446744073709551616) (hc : c < 18446744073709551616) (h : sub64 a b = 0) (k : sub64 b c = 0) : sub64 a c = 0 :=
  (sub_zero ha hc).2 fun t ht => (sub_zero hb hc).1 k t ((sub_zero ha hb).1 h t ht)
theorem okN_parts {L H : Nat} {mn mx : Int} : okN L H mn mx = true ↔ sub64 L H = 0 ∧ nmn L mn ≤ nmx H mx := by
  unfold okN
  rw [Bool.and_eq_true, decide_eq_true_eq, decide_eq_true_eq]
/-- a family stands for a set, in words -/
def hasN (L H S : Nat) (mn mx n : Int) : Bool := decide (sub64 L S = 0) && (decide (sub64 S H = 0) && (decide (mn ≤ n) && decide (n ≤ mx)))
theorem hasN_iff {L H S : Nat} {mn mx n : Int} : hasN L H S mn mx n = true ↔ sub64 L S = 0 ∧ sub64 S H = 0 ∧ mn ≤ n ∧ n ≤ mx := by
  unfold hasN
  simp only [Bool.and_eq_true, decide_eq_true_eq]
theorem has_ok {L H S : Nat} {mn mx : Int} (hL : L < 18446744073709551616) (hH : H < 18446744073709551616) (hS : S < 18446744073709551616) (h : hasN L H S mn mx (ones S) = true) : okN L H mn mx = true := by
  obtain ⟨h1, h2, h3, h4⟩ := hasN_iff.1 h
  have o1 := ones_mono hL hS h1
  have o2 := ones_mono hS hH h2
  refine okN_parts.2 ⟨sub_trans hL hS hH h1 h2, ?_⟩
  unfold nmn nmx
  omega
theorem has_fail {L H S : Nat} {mn mx : Int} (hL : L < 18446744073709551616) (hH : H < 18446744073709551616) (hS : S < 18446744073709551616) (hk : okN L H mn mx = false) : hasN L H S mn mx (ones S) = false := by
  cases h : hasN L H S mn mx (ones S) with
  | false => rfl
  | true => rw [has_ok hL hH hS h] at hk; cases hk
theorem has_normal {L H S : Nat} {mn mx : Int} (hL : L < 18446744073709551616) (hH : H < 18446744073709551616) (hS : S < 18446744073709551616) (hk : okN L H mn mx = true) :
    hasN (nlo L H mn) (nhi L H mn mx) S (nmn L mn) (nmx H mx) (ones S) = hasN L H S mn mx (ones S) := by
  obtain ⟨k1, k2⟩ := okN_parts.1 hk
  have o0 := ones_mono hL hH k1
  rw [Bool.eq_iff_iff, hasN_iff, hasN_iff]
  unfold nlo nhi
  by_cases c1 : nmn L mn = ones H
  · rw [if_pos c1, if_pos c1]
    unfold nmn nmx at *
    constructor
    · rintro ⟨h1, h2, h3, h4⟩
      refine ⟨sub_trans hL hH hS k1 h1, h2, by omega, by omega⟩
    · rintro ⟨h1, h2, h3, h4⟩
      have o1 := ones_mono hL hS h1
      have o2 := ones_mono hS hH h2
      have e := ones_same hS hH h2 (by omega)
      subst e
      exact ⟨h2, h2, by omega, by omega⟩
  · rw [if_neg c1, if_neg c1]
    by_cases c2 : nmx H mx = ones L
    · rw [if_pos c2]
      unfold nmn nmx at *
      constructor
      · rintro ⟨h1, h2, h3, h4⟩
        exact ⟨h1, sub_trans hS hL hH h2 k1, by omega, by omega⟩
      · rintro ⟨h1, h2, h3, h4⟩
        have o1 := ones_mono hL hS h1
        have o2 := ones_mono hS hH h2
        have e := ones_same hL hS h1 (by omega)
        subst e
        exact ⟨h1, h1, by omega, by omega⟩
    · rw [if_neg c2]
      unfold nmn nmx at *
      constructor
      · rintro ⟨h1, h2, h3, h4⟩
        exact ⟨h1, h2, by omega, by omega⟩
      · rintro ⟨h1, h2, h3, h4⟩
        have o1 := ones_mono hL hS h1
        have o2 := ones_mono hS hH h2
        exact ⟨h1, h2, by omega, by omega⟩
/-- the document's round, its second step behind its first one -/
def rhi (L H : Nat) (mn mx : Int) : Nat := if nmx H mx = ones (nlo L H mn) then nlo L H mn else H
theorem rhi_eq {L H : Nat} {mn mx : Int} : rhi L H mn mx = nhi L H mn mx := by
  unfold rhi nhi nlo
  by_cases c1 : nmn L mn = ones H
  · rw [if_pos c1, if_pos c1]
    split <;> rfl
  · rw [if_neg c1, if_neg c1]
theorem again {L H : Nat} {mn mx : Int} (hL : L < 18446744073709551616) (hH : H < 18446744073709551616) (hk : okN L H mn mx = true) :
    okN (nlo L H mn) (nhi L H mn mx) (nmn L mn) (nmx H mx) = true ∧ nmn (nlo L H mn) (nmn L mn) = nmn L mn ∧ nmx (nhi L H mn mx) (nmx H mx) = nmx H mx ∧
    nlo (nlo L H mn) (nhi L H mn mx) (nmn L mn) = nlo L H mn ∧ nhi (nlo L H mn) (nhi L H mn mx) (nmn L mn) (nmx H mx) = nhi L H mn mx := by
  obtain ⟨k1, k2⟩ := okN_parts.1 hk
  have o0 := ones_mono hL hH k1
  by_cases c1 : nmn L mn = ones H
  · have e1 : nlo L H mn = H := if_pos c1
    have e2 : nhi L H mn mx = H := if_pos c1
    rw [e1, e2, okN_parts]
    have g1 : nmn H (nmn L mn) = nmn L mn := by unfold nmn at *; omega
    have g2 : nmx H (nmx H mx) = nmx H mx := by unfold nmx at *; omega
    refine ⟨⟨sub_self hH, by rw [g1, g2]; exact k2⟩, g1, g2, ?_, ?_⟩
    · unfold nlo; split <;> rfl
    · unfold nhi; split
      · rfl
      · split <;> rfl
  · by_cases c2 : nmx H mx = ones L
    · have e1 : nlo L H mn = L := if_neg c1
      have e2 : nhi L H mn mx = L := by unfold nhi; rw [if_neg c1, if_pos c2]
      rw [e1, e2, okN_parts]
      have g1 : nmn L (nmn L mn) = nmn L mn := by unfold nmn at *; omega
      have g2 : nmx L (nmx H mx) = nmx H mx := by unfold nmx at *; omega
      refine ⟨⟨sub_self hL, by rw [g1, g2]; exact k2⟩, g1, g2, ?_, ?_⟩
      · unfold nlo; split <;> rfl
      · unfold nhi; split
        · rfl
        · split <;> rfl
    · have e1 : nlo L H mn = L := if_neg c1
      have e2 : nhi L H mn mx = H := by unfold nhi; rw [if_neg c1, if_neg c2]
      rw [e1, e2, okN_parts]
      have g1 : nmn L (nmn L mn) = nmn L mn := by unfold nmn at *; omega
      have g2 : nmx H (nmx H mx) = nmx H mx := by unfold nmx at *; omega
      refine ⟨⟨k1, by rw [g1, g2]; exact k2⟩, g1, g2, ?_, ?_⟩
      · unfold nlo; rw [g1, if_neg c1]
      · unfold nhi; rw [g1, g2, if_neg c1, if_neg c2]
theorem nlo_lt {L H : Nat} {mn : Int} (hL : L < 18446744073709551616) (hH : H < 18446744073709551616) : nlo L H mn < 18446744073709551616 := by
  unfold nlo; split <;> assumption
theorem nhi_lt {L H : Nat} {mn mx : Int} (hL : L < 18446744073709551616) (hH : H < 18446744073709551616) : nhi L H mn mx < 18446744073709551616 := by
  unfold nhi; split
  · assumption
  · split <;> assumption
/-- a normal form is valid -/
theorem normal_valid {L H : Nat} {mn mx : Int} (hL : L < 18446744073709551616) (hH : H < 18446744073709551616) (h1 : inS mn = true) (hk : okN L H mn mx = true) :
    validFB (bi (nlo L H mn)) (bi (nhi L H mn mx)) (nmn L mn) (nmx H mx) = true := by
  have k2 := (okN_parts.1 hk).2
  have o := ones_le64 hH
  unfold validFB
  rw [bi_elems (nlo_lt hL hH), bi_elems (nhi_lt hL hH)]
  simp only [inS, Bool.and_eq_true, decide_eq_true_eq, Bool.true_and] at h1 ⊢
  unfold nmn nmx at *
  omega
theorem meet_has {L1 L2 H1 H2 S : Nat} {m1 m2 x1 x2 n : Int} (a1 : L1 < 18446744073709551616) (a2 : L2 < 18446744073709551616) (b1 : H1 < 18446744073709551616) (b2 : H2 < 18446744073709551616) (hS : S < 18446744073709551616) :
    hasN (L1 ||| L2) (H1 &&& H2) S (max m1 m2) (min x1 x2) n = (hasN L1 H1 S m1 x1 n && hasN L2 H2 S m2 x2 n) := by
  rw [Bool.eq_iff_iff, Bool.and_eq_true, hasN_iff, hasN_iff, hasN_iff]
  rw [sub_zero (or_lt a1 a2) hS, sub_zero hS (Nat.lt_of_le_of_lt Nat.and_le_left b1), sub_zero a1 hS, sub_zero a2 hS, sub_zero hS b1, sub_zero hS b2]
  constructor
  · rintro ⟨h1, h2, h3, h4⟩
    refine ⟨⟨fun t ht => h1 t (by rw [Nat.testBit_or, ht]; rfl), fun t ht => ?_, by omega, by omega⟩, fun t ht => h1 t (by rw [Nat.testBit_or, ht, Bool.or_true]), fun t ht => ?_, by omega, by omega⟩
    · have := h2 t ht; rw [Nat.testBit_and, Bool.and_eq_true] at this; exact this.1
    · have := h2 t ht; rw [Nat.testBit_and, Bool.and_eq_true] at this; exact this.2
  · rintro ⟨⟨h1, h2, h3, h4⟩, k1, k2, k3, k4⟩
    refine ⟨fun t ht => ?_, fun t ht => by rw [Nat.testBit_and, h2 t ht, k2 t ht]; rfl, by omega, by omega⟩
    rw [Nat.testBit_or, Bool.or_eq_true] at ht
    rcases ht with ht | ht
    · exact h1 t ht
    · exact k1 t ht
end Go.Proofs.YthakhdbakmlooaaDoor
