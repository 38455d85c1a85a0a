/-
  The program's reading of a range.
-/
import Derived.Deep.RegionHeld
import Derived.Deep.CutRange
import Derived.Deep.WholeRow
import Derived.Laws.ResultCell
import Derived.Laws.AppendOwnNone
import Derived.Maps.AppendAt
import Derived.Test.YtjhlodbhchdkbaaGreatDoorDtD
namespace Go.Proofs.YtjhlodbhchdkbaaGreatDoor
set_option linter.unusedSimpArgs false
set_option linter.unusedVariables false
open Go Go.RowKit Go.Lib Go.Ev

theorem results_row_tmp {P : Program} {fn : Func} {p u : Tmp} {ty : TypeId} (h : fn.results = #[.cell p ty, .tmp u]) (tmps : Array Value) (w : World) (g : Nat) (t : TypeId) (cs : Array Value) (fr : Nat × Nat) (d : TypeDesc)
    (hp : tmps.getD p undef = .pointer (some ⟨g, 0, none⟩)) (hg : w.heap[g]? = some (.cells cs t fr))
    (hu : P.underlying ty = some d) (hd : (match d with | .struct _ | .array _ _ => true | _ => false) = true) (hi : (P.info? ty).map (·.size) = some cs.size) :
    (results fn tmps).run P w = .ok (.tuple #[.agg cs, tmps.getD u undef]) w := by
  rw [results_cell_tmp h, hp]
  simp [asAddr, run_loadVar_row w g t ty cs fr d hg hu hd hi]
/-- a pair of numbers in a block -/
def P2 (w : World) (g : Nat) (a b : Value) : Prop := w.heap[g]? = some (.cells #[a, b] 38 (0, 0))
theorem P2.facts {w : World} {g : Nat} {a b : Value} (h : P2 w g a b) : w.cell? ⟨g, 0, none⟩ = some a ∧ w.cell? ⟨g, 1, none⟩ = some b ∧ ∀ o, w.frozen? ⟨g, o, none⟩ = false := by
  refine ⟨?_, ?_, fun o => ?_⟩
  · simp only [World.cell?, show w.heap[g]? = _ from h]; rfl
  · simp only [World.cell?, show w.heap[g]? = _ from h]; rfl
  · simp [World.frozen?, show w.heap[g]? = _ from h]
theorem P2.over {w w' : World} {g : Nat} {a b : Value} (h : P2 w g a b) (k : Below w.heap.size w w') : P2 w' g a b := (k.block g (Array.getElem?_eq_some_iff.1 h).1).trans h
theorem P2.lt {w : World} {g : Nat} {a b : Value} (h : P2 w g a b) : g < w.heap.size := (Array.getElem?_eq_some_iff.1 h).1
theorem P2.set0 {w : World} {g : Nat} {a b : Value} (h : P2 w g a b) (v : Value) : P2 (w.setCell ⟨g, 0, none⟩ v) g v b := heap_setCell_same _ g 0 _ _ v h
theorem P2.set1 {w : World} {g : Nat} {a b : Value} (h : P2 w g a b) (v : Value) : P2 (w.setCell ⟨g, 1, none⟩ v) g a v := heap_setCell_same _ g 1 _ _ v h
def RangeRes (x : Int × Int) (b : Bool) (w : World) (e : Ending) (w' : World) : Prop := e = .returned (.tuple #[.agg #[.int .i64 x.1, .int .i64 x.2], .bool b]) ∧ Below w.heap.size w w'
set_option maxRecDepth 100000 in
set_option maxHeartbeats 4000000 in
theorem parseRange_any (l : List UInt8) (h1 : l.length ≤ 1000000) (w : World) (h : LibD w) :
    Calls Tryz.prog 19 #[.string (st l)] w (RangeRes (rgV l) (rgB l) w) := by
  have CT := Lib.hid (fun w1 (k : Below w.heap.size w w1) => cut_any l [35] h1 w1 (h.over k))
  have PN := Lib.hid (fun (q : List UInt8) (hq : q.length ≤ 1000000) w1 (k : Below w.heap.size w w1) => parseNumber_any q hq w1 (h.over k))
  have l1 : (Lib.cut l [35]).1.length ≤ 1000000 ∧ (Lib.cut l [35]).2.1.length ≤ 1000000 := by
    unfold Lib.cut
    split
    · exact ⟨by simp [List.length_take]; omega, by simp [List.length_drop]; omega⟩
    · exact ⟨h1, by simp⟩
  unfold rgV rgB
  clear h h1
  generalize Lib.cut l [35] = R at *
  obtain ⟨p, q, b⟩ := R
  simp only at l1 ⊢
  have P1 := Lib.hid (PN.out p l1.1)
  have P2' := Lib.hid (PN.out q l1.2)
  clear PN l1
  generalize rdW p = lo at *
  generalize rdW q = hi at *
  generalize numB p = ok1 at *
  generalize numB q = ok2 at *
  cases ok1 with
  | false =>
    rw [if_neg (by rintro ⟨h, _⟩; cases h), Bool.false_and]
    go_enter Tryz.func19, Tryz.ntmps19
    go_upto_region 1 with fail
    have B0 := Lib.hid (show Below w.heap.size w (w.alloc (.cells #[.int .i64 0, .int .i64 0] 38)) from (Below.refl _ w).alloc (Nat.le_refl _) _)
    have F0 := Lib.hid (show P2 (w.alloc (.cells #[.int .i64 0, .int .i64 0] 38)) w.heap.size (.int .i64 0) (.int .i64 0) from heap_alloc_new w _)
    generalize (w.alloc (.cells #[.int .i64 0, .int .i64 0] 38)) = u at *
    go_upto_region 2 with (go_at_call 29; refine (CT.out _ B0.out).mono ?_; rintro e y1 ⟨rfl, hb⟩; have B1 := Lib.hid (B0.out.trans (hb.mono B0.out.size)); have F1 := Lib.hid (F0.out.over hb); clear hb CT)
    go_upto_region 3 with (go_at_call 30; refine (P1.out _ B1.out).mono ?_; rintro e y2 ⟨rfl, hb⟩; have B2 := Lib.hid (B1.out.trans (hb.mono B1.out.size)); have F2 := Lib.hid (F1.out.over hb); clear hb P1)
    obtain ⟨a0, a1, fz⟩ := F2.out.facts
    have g0 := fz 0
    have g1 := fz 1
    clear fz
    go_wp2_with fail
    refine bodyPost_ret (v := .tuple #[.agg #[.int .i64 lo, .int .i64 lo], .bool false]) (Eq.trans (results_row_tmp (p := 2) (u := 3) rfl _ _ w.heap.size 38 _ (0, 0) _ rfl ((F2.out.set0 (.int .i64 lo)).set1 (.int .i64 lo)) Tryz.underlying38 rfl (by kernel_rfl)) rfl) rfl ?_
    exact ⟨rfl, (B2.out.setCell (p := ⟨w.heap.size, 0, none⟩) (Nat.le_refl _) (.int .i64 lo)).setCell (p := ⟨w.heap.size, 1, none⟩) (Nat.le_refl _) (.int .i64 lo)⟩
  | true =>
    cases b with
    | false =>
      rw [if_neg (by rintro ⟨_, h⟩; cases h)]
      go_enter Tryz.func19, Tryz.ntmps19
      go_upto_region 1 with fail
      have B0 := Lib.hid (show Below w.heap.size w (w.alloc (.cells #[.int .i64 0, .int .i64 0] 38)) from (Below.refl _ w).alloc (Nat.le_refl _) _)
      have F0 := Lib.hid (show P2 (w.alloc (.cells #[.int .i64 0, .int .i64 0] 38)) w.heap.size (.int .i64 0) (.int .i64 0) from heap_alloc_new w _)
      generalize (w.alloc (.cells #[.int .i64 0, .int .i64 0] 38)) = u at *
      go_upto_region 2 with (go_at_call 29; refine (CT.out _ B0.out).mono ?_; rintro e y1 ⟨rfl, hb⟩; have B1 := Lib.hid (B0.out.trans (hb.mono B0.out.size)); have F1 := Lib.hid (F0.out.over hb); clear hb CT)
      go_upto_region 3 with (go_at_call 30; refine (P1.out _ B1.out).mono ?_; rintro e y2 ⟨rfl, hb⟩; have B2 := Lib.hid (B1.out.trans (hb.mono B1.out.size)); have F2 := Lib.hid (F1.out.over hb); clear hb P1)
      obtain ⟨a0, a1, fz⟩ := F2.out.facts
      have g0 := fz 0
      have g1 := fz 1
      clear fz
      go_wp2_with fail
      refine bodyPost_ret (v := .tuple #[.agg #[.int .i64 lo, .int .i64 lo], .bool true]) (Eq.trans (results_row_tmp (p := 2) (u := 3) rfl _ _ w.heap.size 38 _ (0, 0) _ rfl ((F2.out.set0 (.int .i64 lo)).set1 (.int .i64 lo)) Tryz.underlying38 rfl (by kernel_rfl)) rfl) rfl ?_
      exact ⟨rfl, (B2.out.setCell (p := ⟨w.heap.size, 0, none⟩) (Nat.le_refl _) (.int .i64 lo)).setCell (p := ⟨w.heap.size, 1, none⟩) (Nat.le_refl _) (.int .i64 lo)⟩
    | true =>
      rw [if_pos ⟨rfl, rfl⟩]
      cases ok2 with
      | false =>
        go_enter Tryz.func19, Tryz.ntmps19
        go_upto_region 1 with fail
        have B0 := Lib.hid (show Below w.heap.size w (w.alloc (.cells #[.int .i64 0, .int .i64 0] 38)) from (Below.refl _ w).alloc (Nat.le_refl _) _)
        have F0 := Lib.hid (show P2 (w.alloc (.cells #[.int .i64 0, .int .i64 0] 38)) w.heap.size (.int .i64 0) (.int .i64 0) from heap_alloc_new w _)
        generalize (w.alloc (.cells #[.int .i64 0, .int .i64 0] 38)) = u at *
        go_upto_region 2 with (go_at_call 29; refine (CT.out _ B0.out).mono ?_; rintro e y1 ⟨rfl, hb⟩; have B1 := Lib.hid (B0.out.trans (hb.mono B0.out.size)); have F1 := Lib.hid (F0.out.over hb); clear hb CT)
        go_upto_region 3 with (go_at_call 30; refine (P1.out _ B1.out).mono ?_; rintro e y2 ⟨rfl, hb⟩; have B2 := Lib.hid (B1.out.trans (hb.mono B1.out.size)); have F2 := Lib.hid (F1.out.over hb); clear hb P1)
        obtain ⟨a0, a1, fz⟩ := F2.out.facts
        have g0 := fz 0
        have g1 := fz 1
        clear fz
        go_upto_region 6 with (go_at_call 30; refine (P2'.out _ B2.out).mono ?_; rintro e y3 ⟨rfl, hb⟩; have B3 := Lib.hid (B2.out.trans (hb.mono B2.out.size)); have F3 := Lib.hid (F2.out.over hb); clear a0 a1 g0 g1 hb P2')
        obtain ⟨a0, a1, fz⟩ := F3.out.facts
        have g0 := fz 0
        have g1 := fz 1
        clear fz
        go_wp2_with fail
        refine bodyPost_ret (v := .tuple #[.agg #[.int .i64 lo, .int .i64 hi], .bool false]) (Eq.trans (results_row_tmp (p := 2) (u := 3) rfl _ _ w.heap.size 38 _ (0, 0) _ rfl ((F3.out.set0 (.int .i64 lo)).set1 (.int .i64 hi)) Tryz.underlying38 rfl (by kernel_rfl)) rfl) rfl ?_
        exact ⟨rfl, (B3.out.setCell (p := ⟨w.heap.size, 0, none⟩) (Nat.le_refl _) (.int .i64 lo)).setCell (p := ⟨w.heap.size, 1, none⟩) (Nat.le_refl _) (.int .i64 hi)⟩
      | true =>
        obtain ⟨c, hc⟩ : ∃ c, decide (lo < hi) = c := ⟨_, rfl⟩
        rw [show (true && (!true || (true && decide (lo < hi)))) = c from by rw [hc]; cases c <;> rfl]
        have HC := Lib.hid hc
        clear hc
        go_enter Tryz.func19, Tryz.ntmps19
        go_upto_region 1 with fail
        have B0 := Lib.hid (show Below w.heap.size w (w.alloc (.cells #[.int .i64 0, .int .i64 0] 38)) from (Below.refl _ w).alloc (Nat.le_refl _) _)
        have F0 := Lib.hid (show P2 (w.alloc (.cells #[.int .i64 0, .int .i64 0] 38)) w.heap.size (.int .i64 0) (.int .i64 0) from heap_alloc_new w _)
        generalize (w.alloc (.cells #[.int .i64 0, .int .i64 0] 38)) = u at *
        go_upto_region 2 with (go_at_call 29; refine (CT.out _ B0.out).mono ?_; rintro e y1 ⟨rfl, hb⟩; have B1 := Lib.hid (B0.out.trans (hb.mono B0.out.size)); have F1 := Lib.hid (F0.out.over hb); clear hb CT)
        go_upto_region 3 with (go_at_call 30; refine (P1.out _ B1.out).mono ?_; rintro e y2 ⟨rfl, hb⟩; have B2 := Lib.hid (B1.out.trans (hb.mono B1.out.size)); have F2 := Lib.hid (F1.out.over hb); clear hb P1)
        obtain ⟨a0, a1, fz⟩ := F2.out.facts
        have g0 := fz 0
        have g1 := fz 1
        clear fz
        go_upto_region 6 with (go_at_call 30; refine (P2'.out _ B2.out).mono ?_; rintro e y3 ⟨rfl, hb⟩; have B3 := Lib.hid (B2.out.trans (hb.mono B2.out.size)); have F3 := Lib.hid (F2.out.over hb); clear a0 a1 g0 g1 hb P2')
        obtain ⟨a0, a1, fz⟩ := F3.out.facts
        have g0 := fz 0
        have g1 := fz 1
        clear fz
        have hc := HC.out
        go_wp2_with fail
        refine bodyPost_ret (v := .tuple #[.agg #[.int .i64 lo, .int .i64 hi], .bool c]) (Eq.trans (results_row_tmp (p := 2) (u := 3) rfl _ _ w.heap.size 38 _ (0, 0) _ rfl ((F3.out.set0 (.int .i64 lo)).set1 (.int .i64 hi)) Tryz.underlying38 rfl (by kernel_rfl)) rfl) rfl ?_
        exact ⟨rfl, (B3.out.setCell (p := ⟨w.heap.size, 0, none⟩) (Nat.le_refl _) (.int .i64 lo)).setCell (p := ⟨w.heap.size, 1, none⟩) (Nat.le_refl _) (.int .i64 hi)⟩
end Go.Proofs.YtjhlodbhchdkbaaGreatDoor
