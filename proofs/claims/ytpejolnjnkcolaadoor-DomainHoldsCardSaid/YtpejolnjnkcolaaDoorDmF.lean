/-
  Whether a propagator holds: the document's own answer.
-/
import Derived.Test.YtpejolnjnkcolaaDoorDmE
namespace Go.Proofs.YtpejolnjnkcolaaDoor
open Go Go.RowKit Go.Ev

theorem lr2 {φ : Pm} {x y : Value} {l : List Value} (h : LR φ [x, y] l) : ∃ x' y', l = [x', y'] ∧ VR φ x x' ∧ VR φ y y' := by
  obtain ⟨a, b, rfl⟩ : ∃ a b, l = [a, b] := by
    have hl := h.1
    rcases l with _ | ⟨a, _ | ⟨b, _ | ⟨d, l⟩⟩⟩ <;> simp at hl
    exact ⟨a, b, rfl⟩
  obtain ⟨h1, h⟩ := h.cons_inv
  exact ⟨a, b, rfl, h1, h.cons_inv.1⟩
theorem agg2 {w0 : W0} {φ : Pm} (sy : Sy w0 φ) {i j : Nat} {v : Value} (h : VR φ (.agg ⟨[.chan (some i), .chan (some j)]⟩) v) : v = .agg #[w0.env i, w0.env j] := by
  cases h with
  | leaf hl => simp [leafB] at hl
  | @agg _ xs' hs hh =>
    obtain ⟨l⟩ := xs'
    rcases l with _ | ⟨p, _ | ⟨q, _ | ⟨r, l⟩⟩⟩ <;> simp at hs
    rw [one_sym sy (hh 0 _ p rfl rfl), one_sym sy (hh 1 _ q rfl rfl)]
theorem sgn_cases (x : Int) : (x < 0 ∧ sgn x = -1) ∨ (x = 0 ∧ sgn x = 0) ∨ (0 < x ∧ sgn x = 1) := by
  unfold sgn
  split
  · exact .inr (.inl ⟨by assumption, rfl⟩)
  · split
    · exact .inl ⟨by assumption, rfl⟩
    · exact .inr (.inr ⟨by omega, rfl⟩)
theorem ints_row {w : World} {g : Nat} {l : List Int} (hr : ∀ x ∈ l, -9223372036854775808 ≤ x ∧ x ≤ 9223372036854775807) (hn : l.length ≤ 1000000) (hg : g < w.heap.size)
    (h : ∃ arr e fz, w.heap[g]? = some (.cells arr e fz) ∧ (arr.toList.drop 0).take (l.map (Value.int .i64)).length = l.map (Value.int .i64) ∧ 0 + (l.map (Value.int .i64)).length ≤ arr.size) : Ints w (some ⟨g, 0, none⟩) l := by
  obtain ⟨arr, e, fz, h1, h2, h3⟩ := h
  refine ⟨hn, hr, fun _ => ⟨g, 0, rfl, hg, fun i hi => ?_⟩⟩
  rw [List.drop_zero, List.length_map] at h2
  have : arr[i]? = some (.int .i64 l[i]) := by
    have h4 := congrArg (fun q => q[i]?) h2
    simp only [List.getElem?_take, if_pos hi, List.getElem?_map, List.getElem?_eq_getElem hi, Option.map_some] at h4
    rw [← h4]; simp
  simp [World.cell?, h1, this]
theorem dot_bound {cs vs : List Int} (hl : vs.length ≤ cs.length) (hn : vs.length ≤ 100) (hc : ∀ x ∈ cs, -1000000 ≤ x ∧ x ≤ 1000000) (hr : ∀ x ∈ vs, -9223372036854775808 ≤ x ∧ x ≤ 9223372036854775807) : -4000000000000000000 * 4294967296 ≤ dot cs vs ∧ dot cs vs ≤ 4000000000000000000 * 4294967296 := by
  have := psum_bound (g := fun i => cs.getD i 0 * vs.getD i 0) (B := 9223372036854775808000000) vs.length fun i hi => by
    have h1 := hc (cs.getD i 0) (by rw [List.getD_eq_getElem?_getD, List.getElem?_eq_getElem (by omega)]; exact List.getElem_mem _)
    have h2 := hr (vs.getD i 0) (by rw [List.getD_eq_getElem?_getD, List.getElem?_eq_getElem hi]; exact List.getElem_mem _)
    have := mul_bound (A := 1000000) (B := 9223372036854775808) h1 (b := vs.getD i 0) (by omega)
    omega
  unfold dot
  omega
end Go.Proofs.YtpejolnjnkcolaaDoor
