/-
  Rows of numbers of one's own, cell by cell.
-/
import Derived.Laws.IdiomCopy
import Derived.Test.YtcbjkclajkjicaaGreatDoorFhA
import Derived.Maps.AppendAt
import Derived.Lib.SliceRun
import Derived.Deep.MidRow
import Derived.Deep.Slices
namespace Go.Proofs.YtcbjkclajkjicaaGreatDoor
open Go Go.RowKit Go.Ev

theorem cellLt {w : World} {p : Addr} {v : Value} (h : w.cell? p = some v) : p.block < w.heap.size := by
  rcases Nat.lt_or_ge p.block w.heap.size with h' | h'
  · exact h'
  · simp [World.cell?, Array.getElem?_eq_none h'] at h
/-- numbers in a block's cells, which may be written -/
def RowAt (w : World) (g : Nat) (xs : List Int) : Prop := ∀ j (h : j < xs.length), w.cell? ⟨g, j, none⟩ = some (.int .i64 xs[j]) ∧ w.frozen? ⟨g, j, none⟩ = false
theorem RowAt.lt {w : World} {g : Nat} {xs : List Int} (h : RowAt w g xs) {k : Nat} (hk : k < xs.length) : g < w.heap.size := cellLt (p := ⟨g, k, none⟩) (h k hk).1
theorem RowAt.below {w w' : World} {g n₀ : Nat} {xs : List Int} (h : RowAt w g xs) (hb : Below n₀ w w') (hg : g < n₀) : RowAt w' g xs := fun j hj => ⟨(hb.cell (p := ⟨g, j, none⟩) hg).trans (h j hj).1, (hb.frozen (p := ⟨g, j, none⟩) hg).trans (h j hj).2⟩
theorem RowAt.take {w : World} {g : Nat} {xs : List Int} (h : RowAt w g xs) (k : Nat) : RowAt w g (xs.take k) := fun j hj => by
  have hj' : j < xs.length := by simp at hj; omega
  rw [List.getElem_take]
  exact h j hj'
theorem RowAt.set {w : World} {g : Nat} {xs : List Int} (h : RowAt w g xs) {i : Nat} (hi : i < xs.length) (v : Int) : RowAt (w.setCell ⟨g, i, none⟩ (.int .i64 v)) g (xs.set i v) := fun j hj => by
  have hj' : j < xs.length := by simpa using hj
  refine ⟨?_, by rw [World.frozen?_setCell]; exact (h j hj').2⟩
  by_cases e : i = j
  · subst e
    rw [World.cell?_setCell_same _ _ _ (h i hi).1]
    simp
  · rw [World.cell?_setCell_other _ _ _ _ (fun h => e (by injection h)), (h j hj').1, List.getElem_set_ne e]
theorem below_cells {B b : Nat} {a : World} (hb : B ≤ b) : ∀ (vs : List Value) (o : Nat) (w : World), Below B a w → Below B a (w.setCells b o vs)
  | [], _, _, h => h
  | v :: r, o, _, h => below_cells hb r (o + 1) _ (h.setCell (p := ⟨b, o, none⟩) hb v)
theorem RowAt.cleared {w : World} {g : Nat} {xs : List Int} (h : RowAt w g xs) (p : Nat) (vs : List Value) : RowAt (w.setCells g p vs) g (xs.take p) := fun j hj => by
  have hj' : j < p ∧ j < xs.length := by simp at hj; omega
  rw [World.frozen?_setCells, World.cell?_setCells_out g vs p w ⟨g, j, none⟩ (fun _ _ => .inl hj'.1), List.getElem_take]
  exact h j hj'.2
theorem set_take {L : List Int} {p : Nat} {x : Int} (h : p < L.length) : (L.set p x).take (p + 1) = L.take p ++ [x] := by
  rw [List.take_succ_eq_append_getElem (by simpa using h), List.take_set_of_le (Nat.le_refl _)]
  simp
/-- what a list is with some struck: a row of one's own -/
def KeptOk (ks : List Int) (base : Nat) (w : World) (e : Ending) (w' : World) : Prop := ∃ A cap, e = .returned (.slice A ks.length cap) ∧ (0 < ks.length → ∃ g, A = some ⟨g, 0, none⟩ ∧ base ≤ g ∧ RowAt w' g ks) ∧ Below base w w'
theorem KeptOk.shape {ks : List Int} {base : Nat} {w : World} {e : Ending} {w' : World} (h : KeptOk ks base w e w') : ∃ A cap, e = .returned (.slice A ks.length cap) ∧ KeptOk ks base w (.returned (.slice A ks.length cap)) w' := by
  obtain ⟨A, cap, rfl, h2⟩ := h
  exact ⟨A, cap, rfl, A, cap, rfl, h2⟩
end Go.Proofs.YtcbjkclajkjicaaGreatDoor

/-
  A list copied.
-/
namespace Go.Proofs.YtcbjkclajkjicaaGreatDoor
open Go Go.RowKit Go.Ev

/-- a copy: a row of one's own -/
def CloneOk (xs : List Int) (w : World) (e : Ending) (w' : World) : Prop := ∃ A cap, e = .returned (.slice A xs.length cap) ∧ xs.length ≤ cap ∧ (0 < xs.length → ∃ g, A = some ⟨g, 0, none⟩ ∧ w.heap.size ≤ g ∧ RowAt w' g xs) ∧ Below w.heap.size w w'
theorem rowAt_of_owns {W : World} {base n cap : Nat} {G : Option Addr} {xs : List Int} (h : W.ownsRow base 3 1 (.slice G xs.length cap) n (xs.map (Value.int .i64))) (hp : 0 < xs.length) : ∃ g, G = some ⟨g, 0, none⟩ ∧ base ≤ g ∧ RowAt W g xs := by
  obtain ⟨h1, h2⟩ := h
  rcases h2 with ⟨hv, _⟩ | ⟨g', cap', cur, hv, hb, hg, hc, hm, hs, ht⟩
  · simp only [Value.slice.injEq] at hv; omega
  · cases hv
    refine ⟨g', rfl, hb, fun j hj => ⟨?_, by simp [World.frozen?, hg]⟩⟩
    have : (cur.toList.take (xs.length * 1))[j]? = some (.int .i64 xs[j]) := by rw [ht]; simp [List.getElem?_eq_getElem hj]
    rw [List.getElem?_take] at this
    split at this
    · simp only [World.cell?, hg]; simpa using this
    · cases this
theorem own_empty (w : World) : (w.alloc (.cells #[] 3)).ownsRow w.heap.size 3 1 (.slice (some ⟨w.heap.size, 0, none⟩) 0 0) 0 [] :=
  ⟨rfl, .inr ⟨w.heap.size, 0, #[], rfl, Nat.le_refl _, heap_alloc_new _ _, Nat.le_refl _, by decide, rfl, rfl⟩⟩
end Go.Proofs.YtcbjkclajkjicaaGreatDoor

/-
  Reading a row that a call has made; slices.Equal.
-/
namespace Go.Proofs.YtcbjkclajkjicaaGreatDoor
set_option linter.unusedSimpArgs false
open Go Go.RowKit Go.Ev

theorem ints_of_rowAt {w : World} {A : Option Addr} {xs : List Int} {base : Nat} (hl : xs.length ≤ 1000000) (hr : ∀ x ∈ xs, -9223372036854775808 ≤ x ∧ x ≤ 9223372036854775807) (h : 0 < xs.length → ∃ g, A = some ⟨g, 0, none⟩ ∧ base ≤ g ∧ RowAt w g xs) : Ints w A xs :=
  ⟨hl, hr, fun hp => by
    obtain ⟨g, e, _, hr⟩ := h hp
    exact ⟨g, 0, e, hr.lt hp, fun i hi => by rw [Nat.zero_add]; exact (hr i hi).1⟩⟩
end Go.Proofs.YtcbjkclajkjicaaGreatDoor
