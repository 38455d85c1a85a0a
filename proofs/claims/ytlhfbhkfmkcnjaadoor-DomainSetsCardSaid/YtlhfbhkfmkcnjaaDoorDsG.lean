/-
  Sets as words: which numbers' bits are set.
-/
import Derived.Test.YtlhfbhkfmkcnjaaDoorDsF
import Derived.Test.YtlhfbhkfmkcnjaaDoorRgM
namespace Go.Proofs.YtlhfbhkfmkcnjaaDoor
open Go Go.RowKit Go.Ev

theorem bitsOf_filter : ∀ (f i x : Nat), x < 2 ^ f → bitsOf f i x = ((List.range f).filter fun t => x.testBit t).map fun t => i + t
  | 0, i, x, h => by simp [bitsOf]
  | f + 1, i, x, h => by
    have ih := bitsOf_filter f (i + 1) (x / 2) (by rw [Nat.pow_succ] at h; omega)
    have e : ((List.range (f + 1)).filter fun t => x.testBit t).map (fun t => i + t) = (if x.testBit 0 = true then [i] else []) ++ ((List.range f).filter fun t => (x / 2).testBit t).map fun t => i + 1 + t := by
      rw [List.range_succ_eq_map, List.filter_cons, List.filter_map]
      have e2 : ((fun t => x.testBit t) ∘ Nat.succ) = fun t => (x / 2).testBit t := by
        funext t
        simp [Nat.testBit_succ]
      rw [e2]
      split
      · simp [Nat.add_comm, Nat.add_left_comm, Function.comp_def]
      · simp [Nat.add_comm, Nat.add_left_comm, Function.comp_def]
    rw [e, ← ih]
    by_cases h0 : x = 0
    · subst h0; rw [bitsOf_zero, bitsOf_zero]; simp
    · have b0 : Nat.beq x 0 = false := by cases e : Nat.beq x 0 with | false => rfl | true => exact absurd (Nat.eq_of_beq_eq_true e) h0
      by_cases h1 : x % 2 = 1
      · have b1 : Nat.beq (x % 2) 1 = true := by rw [h1]; rfl
        have t0 : x.testBit 0 = true := by rw [Nat.testBit_zero, decide_eq_true h1]
        rw [bitsOf, b0, b1, t0]; rfl
      · have b1 : Nat.beq (x % 2) 1 = false := by rw [show x % 2 = 0 by omega]; rfl
        have t0 : x.testBit 0 = false := by rw [Nat.testBit_zero, decide_eq_false h1]
        rw [bitsOf, b0, b1, t0]; rfl
theorem app2 {a b c d : List Nat} (h1 : a = b) (h2 : c = d) : a ++ c = b ++ d := by rw [h1, h2]
/-- whether a set of words has a number -/
def bitAt (ws : List Nat) (v : Nat) : Bool := (ws.getD (v / 64) 0).testBit (v % 64)
theorem allBits_filter : ∀ (k : Nat) (ws : List Nat), (∀ x ∈ ws, x < 18446744073709551616) → allBits k ws = ((List.range (64 * ws.length)).filter (bitAt ws)).map fun v => 64 * k + v
  | k, [], _ => by simp [allBits]
  | k, w :: ws, h => by
    have ih := allBits_filter (k + 1) ws fun x hx => h x (by simp [hx])
    have hw := h w (by simp)
    rw [allBits, ih, bitsOf_filter 64 (64 * k) w hw]
    have e : 64 * (w :: ws).length = 64 + 64 * ws.length := by simp; omega
    rw [e, List.range_add, List.filter_append, List.map_append, List.filter_map, List.map_map]
    refine app2 ?_ ?_
    · refine congrArg (List.map _) (List.filter_congr ?_)
      intro t ht
      have ht := List.mem_range.1 ht
      simp [bitAt, Nat.div_eq_of_lt ht, Nat.mod_eq_of_lt ht]
    · have e2 : (bitAt (w :: ws) ∘ fun x => 64 + x) = bitAt ws := by
        funext t
        simp only [Function.comp_apply, bitAt]
        rw [show (64 + t) / 64 = t / 64 + 1 by omega, show (64 + t) % 64 = t % 64 by omega]
        simp
      rw [e2]
      apply List.map_congr_left
      intro t _
      simp only [Function.comp_apply]
      omega
theorem allBits_all (ws : List Nat) (hl : ws.length = 16) (h : ∀ x ∈ ws, x < 18446744073709551616) : allBits 0 ws = (List.range 1024).filter (bitAt ws) := by
  rw [allBits_filter 0 ws h, hl]; simp
/-- the numbers of a set whose numbers are at most 1000 -/
theorem range_cut {p : Nat → Bool} (h : ∀ v, 1001 ≤ v → v < 1024 → p v = false) : (List.range 1024).filter p = (List.range 1001).filter p := by
  rw [show (1024 : Nat) = 1001 + 23 from rfl, List.range_add, List.filter_append, List.filter_map]
  have e : (List.range 23).filter (p ∘ fun x => 1001 + x) = [] := by
    rw [List.filter_eq_nil_iff]
    intro t ht
    have ht := List.mem_range.1 ht
    rw [Function.comp_apply, h _ (by omega) (by omega)]; simp
  rw [e]; simp
end Go.Proofs.YtlhfbhkfmkcnjaaDoor
