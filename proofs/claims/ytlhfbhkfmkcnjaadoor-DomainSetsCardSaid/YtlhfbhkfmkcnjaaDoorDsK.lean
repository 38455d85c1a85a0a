/-
  Two domains put together, word by word.
-/
import Derived.Test.YtlhfbhkfmkcnjaaDoorDsI
import Derived.Test.YtlhfbhkfmkcnjaaDoorDsJ
namespace Go.Proofs.YtlhfbhkfmkcnjaaDoor
open Go Go.RowKit Go.Ev

theorem ownsRow_lower {W : World} {base base' : Nat} {e : TypeId} {size k : Nat} {v : Value} {xs : List Value} (hb : base' ≤ base) (h : W.ownsRow base e size v k xs) : W.ownsRow base' e size v k xs := by
  refine ⟨h.1, ?_⟩
  rcases h.2 with h0 | ⟨g, c, cur, hv, h1, h2⟩
  · exact Or.inl h0
  · exact Or.inr ⟨g, c, cur, hv, Nat.le_trans hb h1, h2⟩
/-- the numbers of two domains put together -/
def combV (f : Bool → Bool → Bool) (a b : List (Int × Int)) : List Nat := (List.range 1001).filter fun v => f (a.any (inP v)) (b.any (inP v))
theorem any_far {d : List (Int × Int)} (h : vd 0 d = true) {v : Nat} (hv : 1001 ≤ v) : d.any (inP v) = false := by
  rw [List.any_eq_false]
  intro x hx
  have := vd_all (by omega) h x hx
  unfold inP
  rw [decide_eq_true_eq]
  omega
theorem comb_all {f : Bool → Bool → Bool} (hf : f false false = false) {a b : List (Int × Int)} (ha : vd 0 a = true) (hb : vd 0 b = true) {ws us ts : List Nat} (h1 : ws.length = 16) (h2 : us.length = 16) (h3 : ts.length = 16)
    (hw : ∀ x ∈ ws, x < 18446744073709551616) (hm : ∀ j (h : j < 16), WordOk f us[j] ts[j] ws[j]) (hu : ∀ v : Nat, v < 1024 → bitAt us v = a.any (inP v)) (ht : ∀ v : Nat, v < 1024 → bitAt ts v = b.any (inP v)) :
    allBits 0 ws = combV f a b := by
  have key : ∀ v : Nat, v < 1024 → bitAt ws v = f (a.any (inP v)) (b.any (inP v)) := fun v hv => by
    have h := (hm (v / 64) (by omega)).2 (v % 64) (Nat.mod_lt _ (by decide))
    rw [← hu v hv, ← ht v hv]
    unfold bitAt
    simp only [List.getD_eq_getElem?_getD, List.getElem?_eq_getElem (show v / 64 < ws.length by omega), List.getElem?_eq_getElem (show v / 64 < us.length by omega), List.getElem?_eq_getElem (show v / 64 < ts.length by omega), Option.getD_some]
    exact h
  rw [allBits_all ws h1 hw, range_cut fun v h4 h5 => by rw [key v h5, any_far ha h4, any_far hb h4, hf]]
  unfold combV
  exact List.filter_congr fun v hv => key v (by have := List.mem_range.1 hv; omega)
theorem getD_set_ne {ws : List Nat} {i j m : Nat} (h : i ≠ j) : (ws.set j m).getD i 0 = ws.getD i 0 := by
  rw [List.getD_eq_getElem?_getD, List.getD_eq_getElem?_getD, List.getElem?_set_ne (Ne.symm h)]
end Go.Proofs.YtlhfbhkfmkcnjaaDoor
