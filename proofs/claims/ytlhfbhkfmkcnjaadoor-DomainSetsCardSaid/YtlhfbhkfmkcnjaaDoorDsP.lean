/-
  The document's set of a domain: 1001 cells.
-/
import Derived.Laws.IdiomCopy
import Derived.Laws.Tables
import Derived.Laws.Rows
import Derived.Deep.WholeRow
import Derived.Test.YtlhfbhkfmkcnjaaDoorDsN
namespace Go.Proofs.YtlhfbhkfmkcnjaaDoor
open Go Go.RowKit Go.Shelf Go.Ev

/-- a set as its 1001 cells -/
def boolCells (p : Nat → Bool) : List Value := (List.range 1001).map fun v => Value.bool (p v)
theorem boolCells_len (p : Nat → Bool) : (boolCells p).length = 1001 := by simp [boolCells]
theorem boolCells_get (p : Nat → Bool) {v : Nat} (h : v < 1001) : (boolCells p)[v]? = some (.bool (p v)) := by
  simp [boolCells, List.getElem?_range h]
theorem boolCells_set (p : Nat → Bool) {v : Nat} (h : v < 1001) (b : Bool) : (boolCells p).set v (.bool b) = boolCells (fun u => if u = v then b else p u) := by
  refine List.ext_getElem? fun i => ?_
  by_cases hi : i < 1001
  · rw [boolCells_get _ hi, List.getElem?_set, boolCells_get _ hi, boolCells_len]
    by_cases e : v = i
    · subst e; simp [h]
    · simp [e, Ne.symm e]
  · rw [List.getElem?_eq_none (by simp [boolCells]; omega), List.getElem?_eq_none (by simp [boolCells]; omega)]
theorem boolCells_congr {p q : Nat → Bool} (h : ∀ v, v < 1001 → p v = q v) : boolCells p = boolCells q := by
  unfold boolCells
  exact List.map_congr_left fun v hv => by rw [h v (List.mem_range.1 hv)]
theorem infoA : (Tryd.prog.info? 69).map (fun i => (i.size, i.zero)) = some (1001, some (.agg (boolCells fun _ => false).toArray)) := by kernel_rfl
def boolArr (p : Nat → Bool) : Array Value := (boolCells p).toArray
theorem boolArr_size (p : Nat → Bool) : (boolArr p).size = 1001 := by simp [boolArr, boolCells_len]
theorem boolArr_get (p : Nat → Bool) {v : Nat} (h : v < 1001) : (boolArr p)[v]? = some (.bool (p v)) := by
  rw [boolArr, List.getElem?_toArray]; exact boolCells_get p h
theorem boolArr_set (p : Nat → Bool) {v : Nat} (h : v < 1001) (b : Bool) : (boolArr p).setIfInBounds v (.bool b) = boolArr (fun u => if u = v then b else p u) := by
  unfold boolArr
  rw [List.setIfInBounds_toArray, boolCells_set p h]
theorem boolArr_congr {p q : Nat → Bool} (h : ∀ v, v < 1001 → p v = q v) : boolArr p = boolArr q := by
  unfold boolArr; rw [boolCells_congr h]
theorem boolArr_one (p : Nat → Bool) : (boolArr p).all (·.oneCell') = true := by
  rw [Array.all_eq_true_iff_forall_mem]
  intro v hv
  simp only [boolArr, boolCells, List.mem_toArray, List.mem_map] at hv
  obtain ⟨u, _, rfl⟩ := hv
  rfl
theorem infoA2 : (Tryd.prog.info? 69).map (fun i => (i.zero, i.size)) = some (some (.agg (boolArr fun _ => false)), 1001) := by kernel_rfl
theorem sizeA (p : Nat → Bool) : (Tryd.prog.info? 69).map (·.size) = some (boolArr p).size := by
  rw [boolArr_size]; exact (zero_of_info infoA2).2
/-- a set lies whole in a block -/
def SetAt (w : World) (b : Nat) (p : Nat → Bool) : Prop := w.heap[b]? = some (.cells (boolArr p) 69 (0, 0))
theorem SetAt.below {w w' : World} {b n₀ : Nat} {p : Nat → Bool} (h : SetAt w b p) (k : Below n₀ w w') (hb : b < n₀) : SetAt w' b p := (k.block b hb).trans h
theorem SetAt.lt {w : World} {b : Nat} {p : Nat → Bool} (h : SetAt w b p) : b < w.heap.size := lt_heap h
theorem SetAt.cell {w : World} {b : Nat} {p : Nat → Bool} (h : SetAt w b p) {v : Nat} (hv : v < 1001) : w.cell? ⟨b, v, none⟩ = some (.bool (p v)) := by
  have := boolArr_get p hv
  simp [World.cell?, show w.heap[b]? = _ from h, this]
theorem SetAt.free {w : World} {b : Nat} {p : Nat → Bool} (h : SetAt w b p) (v : Nat) : w.frozen? ⟨b, v, none⟩ = false := by
  simp [World.frozen?, show w.heap[b]? = _ from h]
theorem SetAt.put {w : World} {b : Nat} {p : Nat → Bool} (h : SetAt w b p) {v : Nat} (hv : v < 1001) (x : Bool) : SetAt (w.setCell ⟨b, v, none⟩ (.bool x)) b (fun u => if u = v then x else p u) := by
  have := heap_setCell_same _ b v _ _ (.bool x) h
  rw [boolArr_set p hv] at this
  exact this
theorem SetAt.other {w : World} {b c v : Nat} {p : Nat → Bool} {x : Value} (h : SetAt w b p) (hc : b ≠ c) : SetAt (w.setCell ⟨c, v, none⟩ x) b p := (Below.heap_setCell _ _ _ _ hc).trans h
theorem Below.setRow {n₀ : Nat} {w W : World} (h : Below n₀ w W) (g : Nat) (cs : Array Value) (hg : n₀ ≤ g) : Below n₀ w (W.setRow g cs) :=
  ⟨h.os, h.tape, h.output, by rw [size_setRow]; exact h.size, fun k hk => (setRow_other W g k cs (by omega)).trans (h.block k hk)⟩
theorem wp_alloc_any {P : Program} {o : Oper} {a : Act} {w : World} {K : Act → World → Prop} {Q : Exit → Act → World → Prop} (t : TypeId) (ho : o.op = .alloc t) (cs : Array Value) (hz : ∀ w, (zeroValue t).run P w = .ok (.agg cs) w)
    (h : K (a.put o.dst (.pointer (some ⟨w.heap.size, 0, none⟩))) (w.alloc (.cells cs t))) : o.wp P a w K Q := by
  unfold Oper.wp execOp
  simp only [ho, Instr.alloc, Sem.run_bind, hz, Result.andThen_ok, newVar, newRow, run_newObj, Sem.run_pure, Value.cells]
  exact h
theorem wp_store_row {P : Program} {o : Oper} {a : Act} {w : World} {K : Act → World → Prop} {Q : Exit → Act → World → Prop} (t : TypeId) (x y : Operand) (ho : o.op = .store t x y)
    (g : Nat) (c c' : Array Value) (hx : a.eval x = .pointer (some ⟨g, 0, none⟩)) (hy : a.eval y = .agg c') (hg : w.heap[g]? = some (.cells c t (0, 0))) (hi : (P.info? t).map (·.size) = some c'.size) (hc : c.size = c'.size) (h1 : c'.all (·.oneCell') = true)
    (h : K (a.put o.dst undef) (w.setRow g c')) : o.wp P a w K Q := by
  unfold Oper.wp execOp
  simp only [ho, hx, hy, Instr.storeAt, Instr.sureAddr, Sem.run_bind, Sem.run_pure, Result.andThen_ok, run_storeVar_row w g t t c c' hg hi hc h1]
  exact h
theorem zA : ∀ w, (zeroValue 69).run Tryd.prog w = .ok (.agg (boolArr fun _ => false)) w := (zero_of_info infoA2).1
theorem load_set {w : World} {b : Nat} {p : Nat → Bool} (h : SetAt w b p) : (Instr.loadAt 69 (.pointer (some ⟨b, 0, none⟩))).run Tryd.prog w = .ok (.agg (boolArr p)) w := by
  simp only [Instr.loadAt, Instr.sureAddr, Sem.run_bind, Sem.run_pure, Result.andThen_ok, run_loadVar_row w b 69 69 (boolArr p) (0, 0) _ h Tryd.underlying69 rfl (sizeA p)]
theorem store_set {w : World} {b : Nat} {p : Nat → Bool} (h : SetAt w b p) (q : Nat → Bool) : (Instr.storeAt 69 (.pointer (some ⟨b, 0, none⟩)) (.agg (boolArr q))).run Tryd.prog w = .ok () (w.setRow b (boolArr q)) := by
  simp only [Instr.storeAt, Instr.sureAddr, Sem.run_bind, Sem.run_pure, Result.andThen_ok, run_storeVar_row w b 69 69 (boolArr p) (boolArr q) h (sizeA q) (by rw [boolArr_size, boolArr_size]) (boolArr_one q)]
theorem SetAt.stored {w : World} {b : Nat} {p : Nat → Bool} (h : SetAt w b p) (q : Nat → Bool) : SetAt (w.setRow b (boolArr q)) b q := setRow_heap w b _ _ _ _ h
theorem SetAt.apart {w : World} {b c : Nat} {p : Nat → Bool} (h : SetAt w b p) (cs : Array Value) (hc : b ≠ c) : SetAt (w.setRow c cs) b p := (setRow_other w c b cs hc).trans h
theorem wp_load_set {o : Oper} {a : Act} {w : World} {K : Act → World → Prop} {Q : Exit → Act → World → Prop} {b : Nat} {p : Nat → Bool} (x : Operand) (hs : SetAt w b p) (ho : o.op = .load 69 x) (hx : a.eval x = .pointer (some ⟨b, 0, none⟩))
    (h : K (a.put o.dst (.agg (boolArr p))) w) : o.wp Tryd.prog a w K Q := by
  unfold Oper.wp execOp
  simp only [ho, hx, Sem.run_bind, Result.andThen_ok, load_set hs]
  exact h
theorem wp_store_set {o : Oper} {a : Act} {w : World} {K : Act → World → Prop} {Q : Exit → Act → World → Prop} {b : Nat} {p : Nat → Bool} (x y : Operand) (q : Nat → Bool) (hs : SetAt w b p) (ho : o.op = .store 69 x y) (hx : a.eval x = .pointer (some ⟨b, 0, none⟩)) (hy : a.eval y = .agg (boolArr q))
    (h : K (a.put o.dst undef) (w.setRow b (boolArr q))) : o.wp Tryd.prog a w K Q := by
  unfold Oper.wp execOp
  simp only [ho, hx, hy, Sem.run_bind, Result.andThen_ok, store_set hs q]
  exact h
theorem results_set {fn : Func} {p : Tmp} (h : fn.results = #[.cell p 69]) (tmps : Array Value) (w : World) (b : Nat) (q : Nat → Bool) (hp : tmps.getD p undef = .pointer (some ⟨b, 0, none⟩)) (hs : SetAt w b q) :
    (results fn tmps).run Tryd.prog w = .ok (.agg (boolArr q)) w := results_cell_row h tmps w b 69 (boolArr q) (0, 0) _ hp hs Tryd.underlying69 rfl (sizeA q)
attribute [irreducible] boolArr
end Go.Proofs.YtlhfbhkfmkcnjaaDoor
