/-
  The normal form as a family: the program's.
-/
import Derived.Deep.WholeRow
import Derived.Laws.ResultCell
import Derived.Test.YthakhdbakmlooaaDoorFzR
import Derived.Test.YthakhdbakmlooaaDoorKaC
namespace Go.Proofs.YthakhdbakmlooaaDoor
set_option linter.unusedSimpArgs false
open Go Go.RowKit Go.Shelf Go.Ev

theorem famCells_facts {w : World} {B : Nat} (h : famCells w B) : w.cell? ⟨B, 0, none⟩ = some (.slice none 0 0) ∧ w.cell? ⟨B, 1, none⟩ = some (.slice none 0 0) ∧ w.cell? ⟨B, 2, none⟩ = some (.int .i64 0) ∧ w.cell? ⟨B, 3, none⟩ = some (.int .i64 0) ∧ ∀ o, w.frozen? ⟨B, o, none⟩ = false := by
  unfold famCells at h
  refine ⟨?_, ?_, ?_, ?_, fun o => by simp [World.frozen?, h]⟩ <;> (simp only [World.cell?, h]; rfl)
theorem results_row_tmp {P : Program} {fn : Func} {p u : Tmp} {ty : TypeId} (h : fn.results = #[.cell p ty, .tmp u]) (tmps : Array Value) (w : World) (g : Nat) (t : TypeId) (cs : Array Value) (fr : Nat × Nat) (d : TypeDesc)
    (hp : tmps.getD p undef = .pointer (some ⟨g, 0, none⟩)) (hg : w.heap[g]? = some (.cells cs t fr))
    (hu : P.underlying ty = some d) (hd : (match d with | .struct _ | .array _ _ => true | _ => false) = true) (hi : (P.info? ty).map (·.size) = some cs.size) :
    (results fn tmps).run P w = .ok (.tuple #[.agg cs, tmps.getD u undef]) w := by
  rw [results_cell_tmp h, hp]
  simp [asAddr, run_loadVar_row w g t ty cs fr d hg hu hd hi]
/-- a family handed out: two lists of a word's numbers, and two sizes -/
def FamOut (W : World) (base lo hi : Nat) (mn mx : Int) (v : Value) : Prop := ∃ v1 v2, v = .agg #[v1, v2, .int .i64 mn, .int .i64 mx] ∧ BitRow W base v1 lo ∧ BitRow W base v2 hi ∧ (∀ b, v1.ownBlock = some b → v2.ownBlock ≠ some b)
set_option maxRecDepth 100000 in
set_option maxHeartbeats 8000000 in
theorem pnormal_any (lo hi : Nat) (mn mx : Int) (w : World) (h1 : lo < 18446744073709551616) (h2 : hi < 18446744073709551616) (hT : TabIn w) :
    Calls Tryd.prog 32 #[.agg #[.int .u64 lo, .int .u64 hi, .int .i64 mn, .int .i64 mx]] w fun e w' =>
      (if okN lo hi mn mx = true then ∃ v, e = .returned (.tuple #[v, .int .i64 0]) ∧ FamOut w' w.heap.size (nlo lo hi mn) (nhi lo hi mn mx) (nmn lo mn) (nmx hi mx) v
        else e = .returned (.tuple #[.agg #[.slice none 0 0, .slice none 0 0, .int .i64 0, .int .i64 0], .int .i64 60])) ∧ Below w.heap.size w w' := by
  have hw0 := hT.lt
  have NM := Lib.hid (fun w1 (h : Bd w1 w.heap.size lo hi mn mx) => (normalize_any w.heap.size lo hi mn mx w1 h h1 h2).mono fun e w' k => (show e = .returned (.bool (okN lo hi mn mx)) ∧ Only w.heap.size w1 w' ∧ (okN lo hi mn mx = true → Bd w' w.heap.size (nlo lo hi mn) (nhi lo hi mn mx) (nmn lo mn) (nmx hi mx)) from k))
  have FA := Lib.hid (fun w1 (h : TabIn w1) => family_any (nlo lo hi mn) (nhi lo hi mn mx) (nmn lo mn) (nmx hi mx) w1 (by unfold nlo; split <;> assumption) (by unfold nhi; split; assumption; split <;> assumption) h)
  have HT := Lib.hid hT
  have BA := Lib.hid (show Below w.heap.size w ((w.alloc (.cells #[.int .u64 lo, .int .u64 hi, .int .i64 mn, .int .i64 mx] 53)).alloc (.cells #[.slice none 0 0, .slice none 0 0, .int .i64 0, .int .i64 0] 24)) from ((Below.refl _ w).alloc (Nat.le_refl _) _).alloc (by simp) _)
  have BB := Lib.hid (show Bd ((w.alloc (.cells #[.int .u64 lo, .int .u64 hi, .int .i64 mn, .int .i64 mx] 53)).alloc (.cells #[.slice none 0 0, .slice none 0 0, .int .i64 0, .int .i64 0] 24)) w.heap.size lo hi mn mx from heap_alloc2_old _ _ _)
  have BF := Lib.hid (show famCells ((w.alloc (.cells #[.int .u64 lo, .int .u64 hi, .int .i64 mn, .int .i64 mx] 53)).alloc (.cells #[.slice none 0 0, .slice none 0 0, .int .i64 0, .int .i64 0] 24)) (w.heap.size + 1) from heap_alloc2_new _ _ _)
  clear hT h1 h2
  generalize nlo lo hi mn = L at *
  generalize nhi lo hi mn mx = H at *
  generalize nmn lo mn = M at *
  generalize nmx hi mx = X at *
  cases hK : okN lo hi mn mx with
  | false =>
    rw [hK] at NM
    simp only [Bool.false_eq_true, if_false]
    clear FA HT hK
    go_enter Tryd.func32, Tryd.ntmps32
    go_wp2_with (go_at_call 37; refine (NM.out _ BB.out).mono ?_; rintro e y1 ⟨rfl, o1, _⟩; have O1 := Lib.hid o1; have f1 : famCells y1 (w.heap.size + 1) := (o1.2 _ (by omega)).trans BF.out; have F1 := Lib.hid f1; obtain ⟨q0, q1, q2, q3, fz⟩ := famCells_facts f1; clear o1 f1)
    clear q0 q1 q2 q3 fz
    have hz0 := heap_setCell_same _ (w.heap.size + 1) 0 _ _ (.slice none 0 0) F1.out
    have hz1 := heap_setCell_same _ (w.heap.size + 1) 1 _ _ (.slice none 0 0) hz0
    have hz2 := heap_setCell_same _ (w.heap.size + 1) 2 _ _ (.int .i64 0) hz1
    have hz3 := heap_setCell_same _ (w.heap.size + 1) 3 _ _ (.int .i64 0) hz2
    have bz := ((((Below.refl (w.heap.size + 1) y1).setCell (p := ⟨w.heap.size + 1, 0, none⟩) (Nat.le_refl _) (.slice none 0 0)).setCell (p := ⟨w.heap.size + 1, 1, none⟩) (Nat.le_refl _) (.slice none 0 0)).setCell (p := ⟨w.heap.size + 1, 2, none⟩) (Nat.le_refl _) (.int .i64 0)).setCell (p := ⟨w.heap.size + 1, 3, none⟩) (Nat.le_refl _) (.int .i64 0)
    refine bodyPost_ret (v := .tuple #[.agg #[.slice none 0 0, .slice none 0 0, .int .i64 0, .int .i64 0], .int .i64 60]) (Eq.trans (results_row_tmp (p := 2) (u := 3) rfl _ _ (w.heap.size + 1) 24 _ (0, 0) _ rfl hz3 Tryd.underlying24 rfl (by kernel_rfl)) rfl) rfl ?_
    exact ⟨rfl, BA.out.trans (O1.out.1.trans (bz.mono (by omega)))⟩
  | true =>
    rw [hK] at NM
    simp only [if_true]
    clear hK
    go_enter Tryd.func32, Tryd.ntmps32
    go_wp2_with (first | (go_at_call 37; refine (NM.out _ BB.out).mono ?_; rintro e y1 ⟨rfl, o1, b1⟩; have O1 := Lib.hid o1; have F1 := Lib.hid (show famCells y1 (w.heap.size + 1) from (o1.2 _ (by omega)).trans BF.out); obtain ⟨d0, d1, d2, d3, _⟩ := (b1 rfl).facts; have B1 := Lib.hid (BA.out.trans o1.1); clear o1 b1 NM) | (go_at_call 63; refine (FA.out _ (HT.out.below B1.out hw0)).mono ?_; rintro e y2 ⟨v1, v2, rfl, r1, r2, ap, kb⟩; obtain ⟨G1, k1, rfl⟩ := r1.1; obtain ⟨G2, k2, rfl⟩ := r2.1; have R1 := Lib.hid r1; have R2 := Lib.hid r2; have AP := Lib.hid ap; have KB := Lib.hid kb; have F2 := Lib.hid (show famCells y2 (w.heap.size + 1) from (kb.block _ (by have := F1.out; unfold famCells at this; exact (Array.getElem?_eq_some_iff.1 this).1)).trans F1.out); obtain ⟨q0, q1, q2, q3, fz⟩ := famCells_facts F2.out; clear r1 r2 ap kb FA d0 d1 d2 d3))
    clear q0 q1 q2 q3 fz
    have hz0 := heap_setCell_same _ (w.heap.size + 1) 0 _ _ (.slice G1 (bitsOf 64 0 L).length k1) F2.out
    have hz1 := heap_setCell_same _ (w.heap.size + 1) 1 _ _ (.slice G2 (bitsOf 64 0 H).length k2) hz0
    have hz2 := heap_setCell_same _ (w.heap.size + 1) 2 _ _ (.int .i64 M) hz1
    have hz3 := heap_setCell_same _ (w.heap.size + 1) 3 _ _ (.int .i64 X) hz2
    have bz := ((((Below.refl (w.heap.size + 1) y2).setCell (p := ⟨w.heap.size + 1, 0, none⟩) (Nat.le_refl _) (.slice G1 (bitsOf 64 0 L).length k1)).setCell (p := ⟨w.heap.size + 1, 1, none⟩) (Nat.le_refl _) (.slice G2 (bitsOf 64 0 H).length k2)).setCell (p := ⟨w.heap.size + 1, 2, none⟩) (Nat.le_refl _) (.int .i64 M)).setCell (p := ⟨w.heap.size + 1, 3, none⟩) (Nat.le_refl _) (.int .i64 X)
    have oz : ∀ k, k ≠ w.heap.size + 1 → ((((y2.setCell ⟨w.heap.size + 1, 0, none⟩ (.slice G1 (bitsOf 64 0 L).length k1)).setCell ⟨w.heap.size + 1, 1, none⟩ (.slice G2 (bitsOf 64 0 H).length k2)).setCell ⟨w.heap.size + 1, 2, none⟩ (.int .i64 M)).setCell ⟨w.heap.size + 1, 3, none⟩ (.int .i64 X)).heap[k]? = y2.heap[k]? := fun k hk =>
      (Below.heap_setCell _ _ _ k hk).trans ((Below.heap_setCell _ _ _ k hk).trans ((Below.heap_setCell _ _ _ k hk).trans (Below.heap_setCell _ _ _ k hk)))
    have hsz : w.heap.size + 1 < y1.heap.size := by have := F1.out; unfold famCells at this; exact (Array.getElem?_eq_some_iff.1 this).1
    refine bodyPost_ret (v := .tuple #[.agg #[.slice G1 (bitsOf 64 0 L).length k1, .slice G2 (bitsOf 64 0 H).length k2, .int .i64 M, .int .i64 X], .int .i64 0]) (Eq.trans (results_row_tmp (p := 2) (u := 3) rfl _ _ (w.heap.size + 1) 24 _ (0, 0) _ rfl hz3 Tryd.underlying24 rfl (by kernel_rfl)) rfl) rfl ?_
    refine ⟨⟨_, rfl, _, _, rfl, R1.out.past (fun b hb => oz b ?_) (by omega), R2.out.past (fun b hb => oz b ?_) (by omega), AP.out⟩, B1.out.trans ((KB.out.mono (by omega)).trans (bz.mono (by omega)))⟩
    · have := (R1.out.lt hb).1; omega
    · have := (R2.out.lt hb).1; omega
end Go.Proofs.YthakhdbakmlooaaDoor

/-
  Families that are fixed: the program's.
-/
namespace Go.Proofs.YthakhdbakmlooaaDoor
set_option linter.unusedSimpArgs false
open Go Go.RowKit Go.Shelf Go.Ev

set_option maxRecDepth 100000 in
set_option maxHeartbeats 4000000 in
theorem Fixed_p_any (lo hi : List Int) (mn mx : Int) (A B : Option Addr) (c1 c2 : Nat) (w : World) (ha : Ints w A lo) (hb : Ints w B hi) :
    Calls Tryd.prog 17 #[.agg #[.slice A lo.length c1, .slice B hi.length c2, .int .i64 mn, .int .i64 mx]] w fun e w' => e = .returned (.bool (validFB lo hi mn mx && decide (lo = hi))) ∧ Below w.heap.size w w' := by
  have VP := Lib.hid (fun w1 (h : Below w.heap.size w w1) => FValid_p_any lo hi mn mx A B c1 c2 w1 (ha.over h) (hb.over h))
  have EQ := Lib.hid (fun w1 (h : Below w.heap.size w w1) => equal_any lo hi A B c1 c2 w1 (ha.over h) (hb.over h))
  have hl1 := ha.1
  have hl2 := hb.1
  clear ha hb
  generalize validFB lo hi mn mx = V at *
  generalize decide (lo = hi) = E at *
  generalize lo.length = n1 at *
  generalize hi.length = n2 at *
  have BA := Lib.hid (show Below w.heap.size w (w.alloc (.cells #[.slice A n1 c1, .slice B n2 c2, .int .i64 mn, .int .i64 mx] 24)) from (Below.refl _ w).alloc (Nat.le_refl _) _)
  have BX := Lib.hid (show ∀ wx, Below (w.heap.size + 1) (w.alloc (.cells #[.slice A n1 c1, .slice B n2 c2, .int .i64 mn, .int .i64 mx] 24)) wx → wx.cell? ⟨w.heap.size, 0, none⟩ = some (.slice A n1 c1) ∧ wx.cell? ⟨w.heap.size, 1, none⟩ = some (.slice B n2 c2) ∧ wx.cell? ⟨w.heap.size, 2, none⟩ = some (.int .i64 mn) ∧ wx.cell? ⟨w.heap.size, 3, none⟩ = some (.int .i64 mx) from
    fun wx h => ⟨(h.cell (p := ⟨w.heap.size, 0, none⟩) (by simp)).trans (by simp [go_sem]), (h.cell (p := ⟨w.heap.size, 1, none⟩) (by simp)).trans (by simp [go_sem]), (h.cell (p := ⟨w.heap.size, 2, none⟩) (by simp)).trans (by simp [go_sem]), (h.cell (p := ⟨w.heap.size, 3, none⟩) (by simp)).trans (by simp [go_sem])⟩)
  cases V with
  | false =>
    simp only [Bool.false_and]
    go_enter Tryd.func17, Tryd.ntmps17
    go_wp2_with (first | (go_at_call 15; refine (VP.out _ BA.out).mono ?_; rintro e w1 ⟨rfl, hb⟩; have H1 := Lib.hid (show Below (w.heap.size + 1) _ _ from hb.mono (by simp)); have HB := Lib.hid (BA.out.trans (hb.mono BA.out.size)); obtain ⟨y0, y1, y2, y3⟩ := BX.out _ H1.out; clear hb VP) | (go_at_call 44; refine (EQ.out _ HB.out).mono ?_; rintro e w2 ⟨rfl, hb⟩; have HB := Lib.hid (HB.out.trans (hb.mono HB.out.size)); clear hb EQ))
    go_ret
    exact ⟨rfl, HB.out⟩
  | true =>
    simp only [Bool.true_and]
    go_enter Tryd.func17, Tryd.ntmps17
    go_wp2_with (first | (go_at_call 15; refine (VP.out _ BA.out).mono ?_; rintro e w1 ⟨rfl, hb⟩; have H1 := Lib.hid (show Below (w.heap.size + 1) _ _ from hb.mono (by simp)); have HB := Lib.hid (BA.out.trans (hb.mono BA.out.size)); obtain ⟨y0, y1, y2, y3⟩ := BX.out _ H1.out; clear hb VP) | (go_at_call 44; refine (EQ.out _ HB.out).mono ?_; rintro e w2 ⟨rfl, hb⟩; have HB := Lib.hid (HB.out.trans (hb.mono HB.out.size)); clear hb EQ))
    go_ret
    exact ⟨rfl, HB.out⟩
end Go.Proofs.YthakhdbakmlooaaDoor

/-
  Normal: the program's.
-/
namespace Go.Proofs.YthakhdbakmlooaaDoor
set_option linter.unusedSimpArgs false
open Go Go.RowKit Go.Shelf Go.Ev

/-- what a normal form comes out as, where bounds are given -/
def NormRes (lo hi : Nat) (mn mx : Int) (base : Nat) (e : Ending) (w' : World) : Prop :=
  if okN lo hi mn mx = true then ∃ v, e = .returned (.tuple #[v, .int .i64 0]) ∧ FamOut w' base (nlo lo hi mn) (nhi lo hi mn mx) (nmn lo mn) (nmx hi mx) v
    else e = .returned (.tuple #[.agg #[.slice none 0 0, .slice none 0 0, .int .i64 0, .int .i64 0], .int .i64 60])
set_option maxRecDepth 100000 in
set_option maxHeartbeats 8000000 in
theorem Normal_p_any (lo hi : List Int) (mn mx : Int) (A B : Option Addr) (c1 c2 : Nat) (w : World) (ha : Ints w A lo) (hb : Ints w B hi) (hT : TabIn w) :
    Calls Tryd.prog 9 #[.agg #[.slice A lo.length c1, .slice B hi.length c2, .int .i64 mn, .int .i64 mx]] w fun e w' =>
      (if validFB lo hi mn mx = true then NormRes (setN lo) (setN hi) mn mx w.heap.size e w' else e = .returned (.tuple #[.agg #[.slice none 0 0, .slice none 0 0, .int .i64 0, .int .i64 0], .int .i64 2])) ∧ Below w.heap.size w w' := by
  have hw0 := hT.lt
  have HT := Lib.hid hT
  have VP := Lib.hid (fun w1 (h : Below w.heap.size w w1) => FValid_p_any lo hi mn mx A B c1 c2 w1 (ha.over h) (hb.over h))
  have VL := Lib.hid (show validFB lo hi mn mx = true → lo.all inR = true ∧ hi.all inR = true from fun h => by
    unfold validFB elemsB at h
    simp only [Bool.and_eq_true] at h
    exact ⟨h.1.1.1.2, h.1.1.2.2⟩)
  have BO := Lib.hid (fun (h1 : lo.all inR = true) (h2 : hi.all inR = true) w1 (h : Below w.heap.size w w1) => boundsOf_any lo hi mn mx A B c1 c2 w1 (ha.over h) (hb.over h) h1 h2)
  have PN := Lib.hid (fun (h1 : lo.all inR = true) (h2 : hi.all inR = true) w1 (h : TabIn w1) => pnormal_any (setN lo) (setN hi) mn mx w1 (setN_lt h1) (setN_lt h2) h)
  have hl1 := ha.1
  have hl2 := hb.1
  clear ha hb hT
  generalize lo.length = n1 at *
  generalize hi.length = n2 at *
  have BA := Lib.hid (show Below w.heap.size w ((w.alloc (.cells #[.slice A n1 c1, .slice B n2 c2, .int .i64 mn, .int .i64 mx] 24)).alloc (.cells #[.slice none 0 0, .slice none 0 0, .int .i64 0, .int .i64 0] 24)) from ((Below.refl _ w).alloc (Nat.le_refl _) _).alloc (by simp) _)
  have BF := Lib.hid (show famCells ((w.alloc (.cells #[.slice A n1 c1, .slice B n2 c2, .int .i64 mn, .int .i64 mx] 24)).alloc (.cells #[.slice none 0 0, .slice none 0 0, .int .i64 0, .int .i64 0] 24)) (w.heap.size + 1) from heap_alloc2_new _ _ _)
  have BX := Lib.hid (show ∀ wx, Below (w.heap.size + 2) ((w.alloc (.cells #[.slice A n1 c1, .slice B n2 c2, .int .i64 mn, .int .i64 mx] 24)).alloc (.cells #[.slice none 0 0, .slice none 0 0, .int .i64 0, .int .i64 0] 24)) wx → wx.cell? ⟨w.heap.size, 0, none⟩ = some (.slice A n1 c1) ∧ wx.cell? ⟨w.heap.size, 1, none⟩ = some (.slice B n2 c2) ∧ wx.cell? ⟨w.heap.size, 2, none⟩ = some (.int .i64 mn) ∧ wx.cell? ⟨w.heap.size, 3, none⟩ = some (.int .i64 mx) from fun wx h => by
    have hh := (h.block w.heap.size (by omega)).trans (heap_alloc2_old w (.cells #[.slice A n1 c1, .slice B n2 c2, .int .i64 mn, .int .i64 mx] 24) _)
    refine ⟨?_, ?_, ?_, ?_⟩ <;> (simp only [World.cell?, hh]; rfl))
  have SZ := Lib.hid (show ∀ y : World, famCells y (w.heap.size + 1) → w.heap.size + 2 ≤ y.heap.size from fun y h => by unfold famCells at h; exact (Array.getElem?_eq_some_iff.1 h).1)
  cases hV : validFB lo hi mn mx with
  | false =>
    rw [hV] at VP
    simp only [Bool.false_eq_true, if_false]
    clear BO PN VL hV HT SZ
    go_enter Tryd.func9, Tryd.ntmps9
    go_wp2_with ((go_at_call 15; refine (VP.out _ BA.out).mono ?_; rintro e y1 ⟨rfl, hb⟩; have H1 := Lib.hid (show Below (w.heap.size + 2) _ _ from hb.mono (by simp)); have B1 := Lib.hid (BA.out.trans (hb.mono BA.out.size)); have F1 := Lib.hid (show famCells y1 (w.heap.size + 1) from (H1.out.block _ (by omega)).trans BF.out); obtain ⟨q0, q1, q2, q3, fz⟩ := famCells_facts F1.out; obtain ⟨x0, x1, x2, x3⟩ := BX.out _ H1.out; clear hb VP))
    clear q0 q1 q2 q3 fz
    have hz0 := heap_setCell_same _ (w.heap.size + 1) 0 _ _ (.slice none 0 0) F1.out
    have hz1 := heap_setCell_same _ (w.heap.size + 1) 1 _ _ (.slice none 0 0) hz0
    have hz2 := heap_setCell_same _ (w.heap.size + 1) 2 _ _ (.int .i64 0) hz1
    have hz3 := heap_setCell_same _ (w.heap.size + 1) 3 _ _ (.int .i64 0) hz2
    have bz := (((((Below.refl (w.heap.size + 1) y1).setCell (p := ⟨w.heap.size + 1, 0, none⟩) (Nat.le_refl _) (.slice none 0 0)).setCell (p := ⟨w.heap.size + 1, 1, none⟩) (Nat.le_refl _) (.slice none 0 0)).setCell (p := ⟨w.heap.size + 1, 2, none⟩) (Nat.le_refl _) (.int .i64 0)).setCell (p := ⟨w.heap.size + 1, 3, none⟩) (Nat.le_refl _) (.int .i64 0))
    have oz : ∀ k, k ≠ w.heap.size + 1 → ((((y1.setCell ⟨w.heap.size + 1, 0, none⟩ (.slice none 0 0)).setCell ⟨w.heap.size + 1, 1, none⟩ (.slice none 0 0)).setCell ⟨w.heap.size + 1, 2, none⟩ (.int .i64 0)).setCell ⟨w.heap.size + 1, 3, none⟩ (.int .i64 0)).heap[k]? = y1.heap[k]? := fun k hk => (Below.heap_setCell _ _ _ k hk).trans ((Below.heap_setCell _ _ _ k hk).trans ((Below.heap_setCell _ _ _ k hk).trans (Below.heap_setCell _ _ _ k hk)))
    refine bodyPost_ret (v := .tuple #[.agg #[.slice none 0 0, .slice none 0 0, .int .i64 0, .int .i64 0], .int .i64 2]) (Eq.trans (results_row_tmp (p := 2) (u := 3) rfl _ _ (w.heap.size + 1) 24 _ (0, 0) _ rfl hz3 Tryd.underlying24 rfl (by kernel_rfl)) rfl) rfl ?_
    exact ⟨rfl, B1.out.trans (bz.mono (by omega))⟩
  | true =>
    obtain ⟨hr1, hr2⟩ := VL.out hV
    have BO := Lib.hid (BO.out hr1 hr2)
    have PN := Lib.hid (PN.out hr1 hr2)
    rw [hV] at VP
    simp only [if_true]
    unfold NormRes
    clear VL hV hr1 hr2
    generalize setN lo = L at *
    generalize setN hi = H at *
    generalize nlo L H mn = L' at *
    generalize nhi L H mn mx = H' at *
    generalize nmn L mn = M at *
    generalize nmx H mx = X at *
    cases hK : okN L H mn mx with
    | false =>
      rw [hK] at PN
      simp only [Bool.false_eq_true, if_false] at PN ⊢
      clear hK
      go_enter Tryd.func9, Tryd.ntmps9
      go_wp2_with (first | (go_at_call 15; refine (VP.out _ BA.out).mono ?_; rintro e y1 ⟨rfl, hb⟩; have H1 := Lib.hid (show Below (w.heap.size + 2) _ _ from hb.mono (by simp)); have B1 := Lib.hid (BA.out.trans (hb.mono BA.out.size)); have F1 := Lib.hid (show famCells y1 (w.heap.size + 1) from (H1.out.block _ (by omega)).trans BF.out); obtain ⟨q0, q1, q2, q3, fz⟩ := famCells_facts F1.out; obtain ⟨x0, x1, x2, x3⟩ := BX.out _ H1.out; clear hb VP) | (go_at_call 31; clear q0 q1 q2 q3 fz; refine (BO.out _ B1.out).mono ?_; rintro e y2 ⟨rfl, hb⟩; have B2 := Lib.hid (B1.out.trans (hb.mono B1.out.size)); have H2 := Lib.hid (H1.out.trans (hb.mono (SZ.out _ F1.out))); have F2 := Lib.hid (show famCells y2 (w.heap.size + 1) from (H2.out.block _ (by omega)).trans BF.out); clear hb BO x0 x1 x2 x3) | (go_at_call 32; refine (PN.out _ (HT.out.below B2.out hw0)).mono ?_; rintro e y3 ⟨rfl, hb⟩; have H3 := Lib.hid (H2.out.trans (hb.mono (SZ.out _ F2.out))); have B3 := Lib.hid (B2.out.trans (hb.mono B2.out.size)); have F3 := Lib.hid (show famCells y3 (w.heap.size + 1) from (H3.out.block _ (by omega)).trans BF.out); obtain ⟨q0, q1, q2, q3, fz⟩ := famCells_facts F3.out; clear hb PN))
      clear q0 q1 q2 q3 fz
      have hz0 := heap_setCell_same _ (w.heap.size + 1) 0 _ _ (.slice none 0 0) F3.out
      have hz1 := heap_setCell_same _ (w.heap.size + 1) 1 _ _ (.slice none 0 0) hz0
      have hz2 := heap_setCell_same _ (w.heap.size + 1) 2 _ _ (.int .i64 0) hz1
      have hz3 := heap_setCell_same _ (w.heap.size + 1) 3 _ _ (.int .i64 0) hz2
      have bz := (((((Below.refl (w.heap.size + 1) y3).setCell (p := ⟨w.heap.size + 1, 0, none⟩) (Nat.le_refl _) (.slice none 0 0)).setCell (p := ⟨w.heap.size + 1, 1, none⟩) (Nat.le_refl _) (.slice none 0 0)).setCell (p := ⟨w.heap.size + 1, 2, none⟩) (Nat.le_refl _) (.int .i64 0)).setCell (p := ⟨w.heap.size + 1, 3, none⟩) (Nat.le_refl _) (.int .i64 0))
      have oz : ∀ k, k ≠ w.heap.size + 1 → ((((y3.setCell ⟨w.heap.size + 1, 0, none⟩ (.slice none 0 0)).setCell ⟨w.heap.size + 1, 1, none⟩ (.slice none 0 0)).setCell ⟨w.heap.size + 1, 2, none⟩ (.int .i64 0)).setCell ⟨w.heap.size + 1, 3, none⟩ (.int .i64 0)).heap[k]? = y3.heap[k]? := fun k hk => (Below.heap_setCell _ _ _ k hk).trans ((Below.heap_setCell _ _ _ k hk).trans ((Below.heap_setCell _ _ _ k hk).trans (Below.heap_setCell _ _ _ k hk)))
      refine bodyPost_ret (v := .tuple #[.agg #[.slice none 0 0, .slice none 0 0, .int .i64 0, .int .i64 0], .int .i64 60]) (Eq.trans (results_row_tmp (p := 2) (u := 3) rfl _ _ (w.heap.size + 1) 24 _ (0, 0) _ rfl hz3 Tryd.underlying24 rfl (by kernel_rfl)) rfl) rfl ?_
      exact ⟨rfl, B3.out.trans (bz.mono (by omega))⟩
    | true =>
      rw [hK] at PN
      simp only [if_true] at PN ⊢
      clear hK
      go_enter Tryd.func9, Tryd.ntmps9
      go_wp2_with (first | (go_at_call 15; refine (VP.out _ BA.out).mono ?_; rintro e y1 ⟨rfl, hb⟩; have H1 := Lib.hid (show Below (w.heap.size + 2) _ _ from hb.mono (by simp)); have B1 := Lib.hid (BA.out.trans (hb.mono BA.out.size)); have F1 := Lib.hid (show famCells y1 (w.heap.size + 1) from (H1.out.block _ (by omega)).trans BF.out); obtain ⟨q0, q1, q2, q3, fz⟩ := famCells_facts F1.out; obtain ⟨x0, x1, x2, x3⟩ := BX.out _ H1.out; clear hb VP) | (go_at_call 31; clear q0 q1 q2 q3 fz; refine (BO.out _ B1.out).mono ?_; rintro e y2 ⟨rfl, hb⟩; have B2 := Lib.hid (B1.out.trans (hb.mono B1.out.size)); have H2 := Lib.hid (H1.out.trans (hb.mono (SZ.out _ F1.out))); have F2 := Lib.hid (show famCells y2 (w.heap.size + 1) from (H2.out.block _ (by omega)).trans BF.out); clear hb BO x0 x1 x2 x3) | (go_at_call 32; refine (PN.out _ (HT.out.below B2.out hw0)).mono ?_; rintro e y3 ⟨⟨v, rfl, fo⟩, hb⟩; obtain ⟨v1, v2, rfl, r1, r2, ap⟩ := fo; obtain ⟨G1, k1, rfl⟩ := r1.1; obtain ⟨G2, k2, rfl⟩ := r2.1; have R1 := Lib.hid r1; have R2 := Lib.hid r2; have AP := Lib.hid ap; clear r1 r2 ap; have H3 := Lib.hid (H2.out.trans (hb.mono (SZ.out _ F2.out))); have B3 := Lib.hid (B2.out.trans (hb.mono B2.out.size)); have F3 := Lib.hid (show famCells y3 (w.heap.size + 1) from (H3.out.block _ (by omega)).trans BF.out); obtain ⟨q0, q1, q2, q3, fz⟩ := famCells_facts F3.out; clear hb PN))
      have hs2 := SZ.out _ F2.out
      clear q0 q1 q2 q3 fz
      have hz0 := heap_setCell_same _ (w.heap.size + 1) 0 _ _ ((.slice G1 (bitsOf 64 0 L').length k1)) F3.out
      have hz1 := heap_setCell_same _ (w.heap.size + 1) 1 _ _ ((.slice G2 (bitsOf 64 0 H').length k2)) hz0
      have hz2 := heap_setCell_same _ (w.heap.size + 1) 2 _ _ (.int .i64 M) hz1
      have hz3 := heap_setCell_same _ (w.heap.size + 1) 3 _ _ (.int .i64 X) hz2
      have bz := (((((Below.refl (w.heap.size + 1) y3).setCell (p := ⟨w.heap.size + 1, 0, none⟩) (Nat.le_refl _) ((.slice G1 (bitsOf 64 0 L').length k1))).setCell (p := ⟨w.heap.size + 1, 1, none⟩) (Nat.le_refl _) ((.slice G2 (bitsOf 64 0 H').length k2))).setCell (p := ⟨w.heap.size + 1, 2, none⟩) (Nat.le_refl _) (.int .i64 M)).setCell (p := ⟨w.heap.size + 1, 3, none⟩) (Nat.le_refl _) (.int .i64 X))
      have oz : ∀ k, k ≠ w.heap.size + 1 → ((((y3.setCell ⟨w.heap.size + 1, 0, none⟩ ((.slice G1 (bitsOf 64 0 L').length k1))).setCell ⟨w.heap.size + 1, 1, none⟩ ((.slice G2 (bitsOf 64 0 H').length k2))).setCell ⟨w.heap.size + 1, 2, none⟩ (.int .i64 M)).setCell ⟨w.heap.size + 1, 3, none⟩ (.int .i64 X)).heap[k]? = y3.heap[k]? := fun k hk => (Below.heap_setCell _ _ _ k hk).trans ((Below.heap_setCell _ _ _ k hk).trans ((Below.heap_setCell _ _ _ k hk).trans (Below.heap_setCell _ _ _ k hk)))
      refine bodyPost_ret (v := .tuple #[.agg #[(.slice G1 (bitsOf 64 0 L').length k1), (.slice G2 (bitsOf 64 0 H').length k2), .int .i64 M, .int .i64 X], .int .i64 0]) (Eq.trans (results_row_tmp (p := 2) (u := 3) rfl _ _ (w.heap.size + 1) 24 _ (0, 0) _ rfl hz3 Tryd.underlying24 rfl (by kernel_rfl)) rfl) rfl ?_
      refine ⟨⟨_, rfl, _, _, rfl, R1.out.past (fun b hb => oz b ?_) (by omega), R2.out.past (fun b hb => oz b ?_) (by omega), AP.out⟩, B3.out.trans (bz.mono (by omega))⟩
      · have := (R1.out.lt hb).1; omega
      · have := (R2.out.lt hb).1; omega
end Go.Proofs.YthakhdbakmlooaaDoor
