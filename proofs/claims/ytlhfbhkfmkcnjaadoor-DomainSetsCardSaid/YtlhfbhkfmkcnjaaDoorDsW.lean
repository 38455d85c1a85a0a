/-
  What the calls on domains come out as, in one form for both sides.
-/
import Derived.Test.YtlhfbhkfmkcnjaaDoorDsV
namespace Go.Proofs.YtlhfbhkfmkcnjaaDoor
open Go Go.RowKit Go.Shelf Go.Ev

def castP (l : List (Nat × Nat)) : List (Int × Int) := l.map fun p => ((p.1 : Int), (p.2 : Int))
theorem castP_len (l : List (Nat × Nat)) : (castP l).length = l.length := by simp [castP]
theorem addNum_bound {l : List (Nat × Nat)} {v : Nat} (h : ∀ p ∈ l, p.1 ≤ 1000 ∧ p.2 ≤ 1000) (hv : v ≤ 1000) : ∀ p ∈ addNum l v, p.1 ≤ 1000 ∧ p.2 ≤ 1000 := by
  intro p hp
  match l, h, hp with
  | [], _, hp =>
    rw [addNum_nil] at hp
    obtain rfl := List.mem_singleton.1 hp
    exact ⟨hv, hv⟩
  | (a, b) :: r, h, hp =>
    have h0 := h (a, b) (by simp)
    by_cases e : b + 1 = v
    · rw [addNum_in e] at hp
      rcases List.mem_cons.1 hp with rfl | hp
      · exact ⟨h0.1, hv⟩
      · exact h p (by simp [hp])
    · rw [addNum_new e] at hp
      rcases List.mem_cons.1 hp with rfl | hp
      · exact ⟨hv, hv⟩
      · exact h p hp
theorem addTo_bound {l : List Nat} (h : ∀ v ∈ l, v ≤ 1000) : ∀ p ∈ addTo l, p.1 ≤ 1000 ∧ p.2 ≤ 1000 := by
  suffices ∀ (l : List Nat) (acc : List (Nat × Nat)), (∀ v ∈ l, v ≤ 1000) → (∀ p ∈ acc, p.1 ≤ 1000 ∧ p.2 ≤ 1000) → ∀ p ∈ l.foldl addNum acc, p.1 ≤ 1000 ∧ p.2 ≤ 1000 from this l [] h (by simp)
  intro l
  induction l with
  | nil => intro acc _ ha; exact ha
  | cons v l ih => intro acc hl ha; exact ih _ (fun u hu => hl u (by simp [hu])) (addNum_bound ha (hl v (by simp)))
theorem pairCells_get {l : List (Nat × Nat)} {i : Nat} (h : i < l.length) : (pairCells l)[i * 2]? = some (.int .i64 (l[i].1 : Nat)) ∧ (pairCells l)[i * 2 + 1]? = some (.int .i64 (l[i].2 : Nat)) := by
  induction l generalizing i with
  | nil => simp at h
  | cons p r ih =>
    match i, h with
    | 0, _ => exact ⟨rfl, rfl⟩
    | i + 1, h =>
      have := ih (i := i) (by simpa using h)
      rw [show (i + 1) * 2 = i * 2 + 1 + 1 by omega]
      exact this
/-- a row of pairs of one's own, as both sides' words read it -/
theorem pairs_of_row {W : World} {base : Nat} {v : Value} {L : List Nat} (hl : ∀ u ∈ L, u ≤ 1000) (hlen : L.length ≤ 1001) (h : W.ownsRow base 60 2 v (addTo L).length (pairCells (addTo L).reverse)) :
    ∃ G cap, v = .slice G (castP (addTo L).reverse).length cap ∧ Pairs W G (castP (addTo L).reverse) := by
  have hb := addTo_bound hl
  have hn := addTo_len L
  have he : (castP (addTo L).reverse).length = (addTo L).length := by rw [castP_len, List.length_reverse]
  have hr : ∀ x ∈ castP (addTo L).reverse, (-9223372036854775808 ≤ x.1 ∧ x.1 ≤ 9223372036854775807) ∧ -9223372036854775808 ≤ x.2 ∧ x.2 ≤ 9223372036854775807 := by
    intro x hx
    simp only [castP, List.mem_map, List.mem_reverse] at hx
    obtain ⟨p, hp, rfl⟩ := hx
    have := hb p hp
    simp only
    omega
  obtain ⟨h1, h2⟩ := h
  rcases h2 with ⟨hv, hz⟩ | ⟨g, cap, cur, hv, hbg, hg, hc, hm, hs, ht⟩
  · have hz' : (addTo L).length = 0 := by omega
    exact ⟨none, 0, by rw [hv, he, hz'], by omega, hr, fun hp => by omega⟩
  · refine ⟨some ⟨g, 0, none⟩, cap, by rw [hv, he], by omega, hr, fun _ => ⟨g, 0, rfl, lt_heap hg, fun i hi => ?_⟩⟩
    have hi' : i < (addTo L).reverse.length := by rw [castP_len] at hi; exact hi
    obtain ⟨k1, k2⟩ := pairCells_get hi'
    have e1 : (castP (addTo L).reverse)[i] = (((addTo L).reverse[i].1 : Int), ((addTo L).reverse[i].2 : Int)) := by simp [castP]
    rw [e1, Nat.zero_add]
    rw [← ht, List.getElem?_take] at k1 k2
    constructor
    · split at k1
      · simp only [World.cell?, hg]; simpa using k1
      · cases k1
    · split at k2
      · simp only [World.cell?, hg]; simpa using k2
      · cases k2
def resD (ok : Bool) (L : List Nat) : List (Int × Int) := if ok = true then castP (addTo L).reverse else []
def resE (ok : Bool) : Int := if ok = true then 0 else 2
/-- what a call of either side comes out as: ranges and an error's number -/
def ResOk (ok : Bool) (L : List Nat) (w : World) (e : Ending) (w' : World) : Prop :=
  ∃ G cap, e = .returned (.tuple #[.slice G (resD ok L).length cap, .int .i64 (resE ok)]) ∧ Pairs w' G (resD ok L) ∧ Below w.heap.size w w'
theorem pairs_nil (W : World) : Pairs W none [] := ⟨by simp, by simp, fun h => by simp at h⟩
theorem CombOk.res {f : Bool → Bool → Bool} {a b : List (Int × Int)} {w : World} {e : Ending} {w' : World} (h : CombOk f a b w e w') : ResOk (vd 0 a && vd 0 b) (combV f a b) w e w' := by
  obtain ⟨hb, h⟩ := h
  unfold ResOk resD resE
  split at h
  · rename_i hv
    obtain ⟨v, rfl, hr, _⟩ := h
    obtain ⟨G, cap, rfl, hp⟩ := pairs_of_row (fun u hu => by have := List.mem_range.1 (List.mem_filter.1 hu).1; omega) (by have := List.length_filter_le (fun v : Nat => f (a.any (inP v)) (b.any (inP v))) (List.range 1001); rw [List.length_range] at this; exact this) hr
    rw [hv, if_pos rfl, if_pos rfl]
    exact ⟨G, cap, rfl, hp, hb⟩
  · rename_i hv
    rw [if_neg hv, if_neg hv]
    exact ⟨none, 0, h, pairs_nil _, hb⟩
theorem OfOk.res {l : List Int} {w : World} {e : Ending} {w' : World} (h : OfOk l w e w') : ResOk (l.all okB) (ofV l) w e w' := by
  obtain ⟨hb, h⟩ := h
  unfold ResOk resD resE
  split at h
  · rename_i hv
    obtain ⟨v, rfl, hr, _⟩ := h
    obtain ⟨G, cap, rfl, hp⟩ := pairs_of_row (fun u hu => by have := List.mem_range.1 (List.mem_filter.1 hu).1; omega) (by have := List.length_filter_le (fun v : Nat => l.contains (v : Int)) (List.range 1001); rw [List.length_range] at this; exact this) hr
    rw [hv, if_pos rfl, if_pos rfl]
    exact ⟨G, cap, rfl, hp, hb⟩
  · rename_i hv
    rw [if_neg hv, if_neg hv]
    exact ⟨none, 0, h, pairs_nil _, hb⟩
/-- a row of numbers of one's own, as a slice of integers -/
theorem ints_of_row {W : World} {base cap : Nat} {G : Option Addr} {d : List (Int × Int)} (h : W.ownsRow base 3 1 (.slice G (valsV d).length cap) (valsV d).length ((valsV d).map (Value.int .i64))) : Ints W G (valsV d) := by
  have hr : (valsV d).length ≤ 1002 ∧ ∀ x ∈ valsV d, 0 ≤ x ∧ x ≤ 1000 := by
    cases hv : vd 0 d with
    | true => exact valsV_range hv
    | false => unfold valsV; rw [hv]; simp
  refine ⟨by omega, fun x hx => by have := hr.2 x hx; omega, fun hp => ?_⟩
  obtain ⟨g, e, _, hc⟩ := row_open h hp
  refine ⟨g, 0, e, ?_, fun i hi => by rw [Nat.zero_add]; exact hc i hi⟩
  have := hc 0 hp
  exact lt_cell (p := ⟨g, 0, none⟩) this
end Go.Proofs.YtlhfbhkfmkcnjaaDoor
