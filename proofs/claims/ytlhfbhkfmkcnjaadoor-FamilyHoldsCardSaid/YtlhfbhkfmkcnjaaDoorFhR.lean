/-
  Rows of numbers of one's own, cell by cell.
-/
import Derived.Laws.IdiomCopy
import Derived.Test.YtlhfbhkfmkcnjaaDoorFhB
namespace Go.Proofs.YtlhfbhkfmkcnjaaDoor
open Go Go.RowKit Go.Ev

theorem cellLt {w : World} {p : Addr} {v : Value} (h : w.cell? p = some v) : p.block < w.heap.size := by
  rcases Nat.lt_or_ge p.block w.heap.size with h' | h'
  · exact h'
  · simp [World.cell?, Array.getElem?_eq_none h'] at h
/-- numbers in a block's cells, which may be written -/
def RowAt (w : World) (g : Nat) (xs : List Int) : Prop := ∀ j (h : j < xs.length), w.cell? ⟨g, j, none⟩ = some (.int .i64 xs[j]) ∧ w.frozen? ⟨g, j, none⟩ = false
theorem RowAt.lt {w : World} {g : Nat} {xs : List Int} (h : RowAt w g xs) {k : Nat} (hk : k < xs.length) : g < w.heap.size := cellLt (p := ⟨g, k, none⟩) (h k hk).1
theorem RowAt.below {w w' : World} {g n₀ : Nat} {xs : List Int} (h : RowAt w g xs) (hb : Below n₀ w w') (hg : g < n₀) : RowAt w' g xs := fun j hj => ⟨(hb.cell (p := ⟨g, j, none⟩) hg).trans (h j hj).1, (hb.frozen (p := ⟨g, j, none⟩) hg).trans (h j hj).2⟩
theorem RowAt.take {w : World} {g : Nat} {xs : List Int} (h : RowAt w g xs) (k : Nat) : RowAt w g (xs.take k) := fun j hj => by
  have hj' : j < xs.length := by simp at hj; omega
  rw [List.getElem_take]
  exact h j hj'
theorem RowAt.set {w : World} {g : Nat} {xs : List Int} (h : RowAt w g xs) {i : Nat} (hi : i < xs.length) (v : Int) : RowAt (w.setCell ⟨g, i, none⟩ (.int .i64 v)) g (xs.set i v) := fun j hj => by
  have hj' : j < xs.length := by simpa using hj
  refine ⟨?_, by rw [World.frozen?_setCell]; exact (h j hj').2⟩
  by_cases e : i = j
  · subst e
    rw [World.cell?_setCell_same _ _ _ (h i hi).1]
    simp
  · rw [World.cell?_setCell_other _ _ _ _ (fun h => e (by injection h)), (h j hj').1, List.getElem_set_ne e]
theorem below_cells {B b : Nat} {a : World} (hb : B ≤ b) : ∀ (vs : List Value) (o : Nat) (w : World), Below B a w → Below B a (w.setCells b o vs)
  | [], _, _, h => h
  | v :: r, o, _, h => below_cells hb r (o + 1) _ (h.setCell (p := ⟨b, o, none⟩) hb v)
theorem RowAt.cleared {w : World} {g : Nat} {xs : List Int} (h : RowAt w g xs) (p : Nat) (vs : List Value) : RowAt (w.setCells g p vs) g (xs.take p) := fun j hj => by
  have hj' : j < p ∧ j < xs.length := by simp at hj; omega
  rw [World.frozen?_setCells, World.cell?_setCells_out g vs p w ⟨g, j, none⟩ (fun _ _ => .inl hj'.1), List.getElem_take]
  exact h j hj'.2
theorem set_take {L : List Int} {p : Nat} {x : Int} (h : p < L.length) : (L.set p x).take (p + 1) = L.take p ++ [x] := by
  rw [List.take_succ_eq_append_getElem (by simpa using h), List.take_set_of_le (Nat.le_refl _)]
  simp
/-- what a list is with some struck: a row of one's own -/
def KeptOk (ks : List Int) (base : Nat) (w : World) (e : Ending) (w' : World) : Prop := ∃ A cap, e = .returned (.slice A ks.length cap) ∧ (0 < ks.length → ∃ g, A = some ⟨g, 0, none⟩ ∧ base ≤ g ∧ RowAt w' g ks) ∧ Below base w w'
theorem KeptOk.shape {ks : List Int} {base : Nat} {w : World} {e : Ending} {w' : World} (h : KeptOk ks base w e w') : ∃ A cap, e = .returned (.slice A ks.length cap) ∧ KeptOk ks base w (.returned (.slice A ks.length cap)) w' := by
  obtain ⟨A, cap, rfl, h2⟩ := h
  exact ⟨A, cap, rfl, A, cap, rfl, h2⟩
end Go.Proofs.YtlhfbhkfmkcnjaaDoor
