/-
  A loop over a function that goes through all its elements, where the function may write variables of its own between two rounds.
-/
import Derived.RangeFuncWrites
import Derived.RangeFuncLeaves
import Derived.RangeFuncBox
import Derived.Test.YthakhdbakmlooaaDoorRows
import Derived.WalkKit
import Derived.Handy
import Derived.Laws.Bits64b
import Derived.Lib.TrailingZeros
import Derived.Lib.Hide
import Derived.Test.YthakhdbakmlooaaDoorEvX
import Derived.RangeFuncNested
import Derived.RangeFuncBound
import Derived.RangeFuncCalls
import Derived.Shelf.Abstract
import Derived.Shelf.RegionOpen
import Derived.OwnWalkIn
import Derived.TacticsInMore
import Derived.LoopNIn
import Derived.LoopIn
import Derived.Sort.QuietIn
import Derived.Maps.AppendAt
namespace Go.Proofs.YthakhdbakmlooaaDoor
open Go Go.RowKit

/-- What a function that is ranged over does, where no round stops it: 'st' are its own steps between two rounds, 'kp' is what a round must keep for it. -/
def GoesAll {α : Type} (F : Fence) (n : Nat) (P : Program) (gf : Nat) (lb : Array Value) (encs : α → Array Value) (st kp : World → World → Prop) (S : List α → Prop) (N : Nat) (Ok : World → Prop) : Prop :=
  ∀ (l : Nat) (J : List α → World → Prop) (W : World), Ok W → (∀ pre X Y, J pre X → st X Y → J pre Y) →
    (∀ pre x X, J pre X → pre.length < N → YieldAt F (n - 1) P l (encs x) X fun e Y => e = .returned (.bool true) ∧ J (pre ++ [x]) Y ∧ kp X Y) →
    J [] W → CallsIn F n P gf (#[.func (.yield l) #[] #[]] ++ lb) W fun e Y => (∃ v, e = .returned v) ∧ ∃ xs, S xs ∧ J xs Y

theorem range_all {F : Fence} {n : Nat} {P : Program} {α : Type} {g : Operand} {ps : Array Tmp} {assign body : Code} {Q : Exit → Act → World → Prop} {a : Act} {w : World}
    (hro : F.round = none) (h1 : 1 ≤ n) {gf : Nat} {lb : Array Value} (hg : a.eval g = .func (.func gf) #[] lb) (hFg : F.fn gf) (eg : ∀ args w, (callFunc gf args).run P w = .ok (.enter gf args) w)
    {encs : α → Array Value} (hps : ∀ x, (encs x).size = ps.size) {st kp : World → World → Prop} {S : List α → Prop} {N : Nat} {Ok : World → Prop} (hseq : GoesAll F (n - 1) P gf lb encs st kp S N Ok)
    (hst : ∀ X Y, st X Y → ∀ k, w.heap.size ≤ k → Y.heap[k]? = X.heap[k]?)
    (hkt : ∀ {X Y Z}, kp X Y → kp Y Z → kp X Z) (hkb : ∀ X k o, w.heap.size ≤ k → kp X (X.putObj k o))
    (I : List α → World → Prop) (hIs : ∀ pre X Y, I pre X → st X Y → I pre Y)
    (hIb : ∀ pre X k r o, I pre X → w.heap.size ≤ k → X.heap[k]? = some r → r.isCells = false → I pre (X.putObj k o))
    (hI0 : ∀ o1 o2 : Obj, o1.isCells = false → o2.isCells = false → I [] ((w.alloc o1).alloc o2) ∧ Ok ((w.alloc o1).alloc o2)) (a₁ : α → Act)
    (hassign : ∀ (l : Nat) (x : α) (W : World) (K : Act → World → Prop), K (a₁ x) W →
      assign.wpIn (F.inRound l) (n - 1 - 1) P (Exit.then K (fun _ _ _ => False)) { tmps := (ps.zip (encs x)).foldl (fun t (p, v) => t.setIfInBounds p v) a.tmps, defers := [] } W)
    (hbody : ∀ (l : Nat) (pre : List α) (x : α) (W : World), I pre W → pre.length < N → body.wpIn (F.inRound l) (n - 1 - 1) P (fun e _ Y => e = .normal ∧ KeepsOthers W Y ∧ kp W Y ∧ I (pre ++ [x]) Y) (a₁ x) W)
    (hdone : ∀ (D : Nat) (xs : List α) (W : World), w.heap.size ≤ D → S xs → I xs W → W.heap[D]? = some (.deferred (some [])) → Q .normal { a with defers := { target := .collected D, args := #[] } :: a.defers } W) :
    (Code.rangeFunc g ps assign body).wpIn F n P Q a w := by
  refine wpIn_rangeFunc fun fn hfn => ?_
  rw [hro]
  obtain ⟨R, hR⟩ : ∃ R : LoopState → Loop, R = fun s => { state := s, pending := none, fn, tmps := a.tmps, params := ps, assign, body, defers := w.heap.size } := ⟨_, rfl⟩
  have hz := hI0 (.deferred (some [])) (.loop (R .ready)) rfl rfl
  have hl0 : ((w.alloc (.deferred (some []))).alloc (.loop (R .ready))).heap[w.heap.size + 1]? = some (.loop (R .ready)) := by
    have := World.alloc_heap_new (w.alloc (.deferred (some []))) (.loop (R .ready))
    rwa [World.size_alloc] at this
  have hd0 : ((w.alloc (.deferred (some []))).alloc (.loop (R .ready))).heap[w.heap.size]? = some (.deferred (some [])) := (Below.heap_alloc _ _ _ (by simp)).trans (World.alloc_heap_new w _)
  refine ⟨w.heap.size + 1, [{ target := .collected w.heap.size, args := #[] }], (w.alloc (.deferred (some []))).alloc (.loop (R .ready)), { target := .fn (.func gf) lb, args := #[.func (.yield (w.heap.size + 1)) #[] #[]] }, (w.alloc (.deferred (some []))).alloc (.loop (R .ready)), gf,
    #[.func (.yield (w.heap.size + 1)) #[] #[]] ++ lb, (w.alloc (.deferred (some []))).alloc (.loop (R .ready)), ?_, ?_, ?_, ?_, fun _ => h1, ?_⟩
  · rw [hR]; exact run_enterLoop_outer _ _ _ _ _
  · simp only [resolve, hg]
    simp [go_sem]
  · intro f' hf'
    simp [Target.leads] at hf'
    subst hf'
    exact hFg
  · simp [invoke, go_sem, eg]
  · refine (hseq (w.heap.size + 1) (fun pre X => I pre X ∧ X.heap[w.heap.size + 1]? = some (.loop (R .ready)) ∧ X.heap[w.heap.size]? = some (.deferred (some []))) _ hz.2 ?_ ?_ ⟨hz.1, hl0, hd0⟩).mono ?_
    · rintro pre X Y ⟨i, l, d⟩ hs
      exact ⟨hIs _ _ _ i hs, (hst _ _ hs _ (by omega)).trans l, (hst _ _ hs _ (Nat.le_refl _)).trans d⟩
    · rintro pre x X ⟨i, l, d⟩ hlen
      have hlt : w.heap.size + 1 < X.heap.size := (Array.getElem?_eq_some_iff.1 l).1
      have hy := run_yield (P := P) (args := encs x) l (by rw [hR]; exact hps x)
      rw [hR] at hy
      have l2 : (X.putObj (w.heap.size + 1) (.loop (R .busy))).heap[w.heap.size + 1]? = some (.loop (R .busy)) := World.putObj_heap_same hlt
      have d2 : (X.putObj (w.heap.size + 1) (.loop (R .busy))).heap[w.heap.size]? = some (.deferred (some [])) := (World.putObj_heap_other (by omega)).trans d
      have hbr : (Instr.beginRound (w.heap.size + 1)).run P X = .ok () (X.putObj (w.heap.size + 1) (.loop (R .busy))) := by
        have := run_beginRound (P := P) l (by rw [hR])
        rw [hR] at this ⊢
        exact this
      refine ⟨fn, _, assign, body, hy, roundIn_of_wpIn hfn (hassign _ x X _ ⟨_, hbr, ?_⟩)⟩
      refine wpIn_mono (hbody _ pre x _ (hIb _ _ _ _ _ i (by omega) l rfl) hlen) ?_
      rintro e a3 Y ⟨rfl, ko, k3, i3⟩
      have l3 := ko.same _ _ l2 rfl
      have her : (Instr.endRound (w.heap.size + 1) none).run P Y = .ok (.bool true) (Y.putObj (w.heap.size + 1) (.loop (R .ready))) := by
        have := run_endRound (P := P) none l3
        rw [hR] at this ⊢
        exact this
      exact ⟨_, _, her, rfl, ⟨hIb _ _ _ _ _ i3 (by omega) l3 rfl, World.putObj_heap_same (Array.getElem?_eq_some_iff.1 l3).1, (World.putObj_heap_other (by omega)).trans (ko.same _ _ d2 rfl)⟩, hkt (hkb _ _ _ (by omega)) (hkt k3 (hkb _ _ _ (by omega)))⟩
    · rintro e W2 ⟨⟨v, rfl⟩, xs, hS, i, l, d⟩
      have hel := run_endLoop (P := P) l (by rw [hR]; simp)
      rw [show (R .ready).pending = none by rw [hR]] at hel
      exact ⟨none, _, hel, hdone _ xs _ (Nat.le_refl _) hS (hIb _ _ _ _ _ i (by omega) l rfl) ((World.putObj_heap_other (by omega)).trans d)⟩
end Go.Proofs.YthakhdbakmlooaaDoor

/-
  The number of zero bits at the end of a word: by the table, where it lies as it is laid.
-/
namespace Go.Proofs.YthakhdbakmlooaaDoor
open Go Go.RowKit

/-- The table lies in its variable. -/
def TabIn (w : World) : Prop := ∀ j, j < Lib.deBruijn64tab.length → w.cell? ⟨0, j, none⟩ = some (.int .u8 (Lib.deBruijn64tab.getD j 0))
theorem TabIn.lt {w : World} (h : TabIn w) : 0 < w.heap.size := by
  have := h 0 (by decide)
  rcases Nat.eq_zero_or_pos w.heap.size with e | e
  · simp [World.cell?, Array.getElem?_eq_none (show w.heap.size ≤ 0 by omega)] at this
  · exact e
theorem TabIn.below {w w' : World} {B : Nat} (h : TabIn w) (hb : Below B w w') (hB : 0 < B) : TabIn w' := fun j hj => (hb.cell (p := ⟨0, j, none⟩) hB).trans (h j hj)
set_option maxHeartbeats 1000000 in
theorem tz_core (x k idx : Nat) (w : World) (hx0 : ((x : Int) == 0) = false)
    (key : IntKind.u64.wrap (bits BinOp.and IntKind.u64 (x : Int) (IntKind.u64.wrap (-(x : Int))) * 285870213051353865) / 288230376151711744 = (idx : Int))
    (hi : idx < 64) (hk : k < 64) (hcell : w.cell? ⟨0, idx, none⟩ = some (.int .u8 k)) :
    Calls Tryd.prog 99 #[.int .u64 x] w fun e w' => e = .returned (.int .i64 k) ∧ w' = w := by
  go_enter Tryd.func99, Tryd.ntmps99
  go_wp2_with (simp only [key])
  go_ret
  exact ⟨rfl, rfl⟩
theorem tz_zero (w : World) : Calls Tryd.prog 99 #[.int .u64 0] w fun e w' => e = .returned (.int .i64 64) ∧ w' = w := by
  go_enter Tryd.func99, Tryd.ntmps99
  go_wp2
  go_ret
  exact ⟨rfl, rfl⟩
theorem tz_key (x a : Nat) (hx : x < 18446744073709551616) (hx0 : x ≠ 0) (hlow : x &&& (18446744073709551616 - x) = a) :
    IntKind.u64.wrap (bits BinOp.and IntKind.u64 (x : Int) (IntKind.u64.wrap (-(x : Int))) * 285870213051353865) / 288230376151711744 = ((a * 285870213051353865 % 18446744073709551616 / 288230376151711744 : Nat) : Int) := by
  have e1 : IntKind.u64.wrap (-(x : Int)) = ((18446744073709551616 - x : Nat) : Int) := by rw [IntKind.wrap_u64]; omega
  rw [e1, bits_and_u64_nat x _ hx (by omega), hlow, IntKind.wrap_u64]
  omega
theorem tz_any (x : Nat) (hx : x < 18446744073709551616) (w : World) (hT : TabIn w) :
    Calls Tryd.prog 99 #[.int .u64 x] w fun e w' => e = .returned (.int .i64 (Lib.ctz 64 x)) ∧ w' = w := by
  by_cases hx0 : x = 0
  · subst hx0
    exact tz_zero w
  · obtain ⟨hlow, hk⟩ := Lib.lowest_bit 64 x hx0 hx
    obtain ⟨hi, htab⟩ := Lib.deBruijn64_at _ hk
    have hcell := hT _ hi
    rw [htab] at hcell
    exact tz_core x _ _ w (by simp; omega) (tz_key x _ hx hx0 hlow) hi hk hcell
end Go.Proofs.YthakhdbakmlooaaDoor

/-
  The bits of words, one by one; numbers in order as ranges.
-/
namespace Go.Proofs.YthakhdbakmlooaaDoor
open Go Go.Ev

theorem land_even (y : Nat) : (2 * y) &&& (2 * y - 1) = 2 * (y &&& (y - 1)) := by
  apply Nat.eq_of_testBit_eq
  intro k
  rw [Nat.testBit_and]
  cases k with
  | zero => simp [Nat.testBit_zero]
  | succ k =>
    rw [Nat.testBit_succ, Nat.testBit_succ, Nat.testBit_succ, Nat.mul_div_cancel_left _ (by decide), Nat.mul_div_cancel_left _ (by decide), show (2 * y - 1) / 2 = y - 1 by omega, Nat.testBit_and]
theorem land_odd (x : Nat) (h : x % 2 = 1) : x &&& (x - 1) = x - 1 := by
  apply Nat.eq_of_testBit_eq
  intro k
  rw [Nat.testBit_and]
  cases k with
  | zero => simp [Nat.testBit_zero]; omega
  | succ k => rw [Nat.testBit_succ, Nat.testBit_succ, show (x - 1) / 2 = x / 2 by omega, Bool.and_self]
theorem land_lt {x : Nat} (h : x ≠ 0) : x &&& (x - 1) < x := Nat.lt_of_le_of_lt Nat.and_le_right (by omega)
theorem bitsOf_zero : ∀ f i, bitsOf f i 0 = []
  | 0, _ => rfl
  | _ + 1, _ => rfl
theorem ctz_odd {x : Nat} (f : Nat) (h : x % 2 = 1) : Lib.ctzFrom (f + 1) x = 0 := by unfold Lib.ctzFrom; rw [if_pos h]
theorem ctz_even {x : Nat} (f : Nat) (h : ¬ x % 2 = 1) : Lib.ctzFrom (f + 1) x = Lib.ctzFrom f (x / 2) + 1 := by rw [Lib.ctzFrom, if_neg h, Nat.add_comm]
theorem bitsOf_step : ∀ (f i x : Nat), x ≠ 0 → x < 2 ^ f → bitsOf f i x = (i + Lib.ctzFrom f x) :: bitsOf f i (x &&& (x - 1))
  | 0, _, x, h0, h => by simp at h; omega
  | f + 1, i, x, h0, h => by
    have b0 : Nat.beq x 0 = false := by cases e : Nat.beq x 0 with | false => rfl | true => exact absurd (Nat.eq_of_beq_eq_true e) h0
    by_cases h1 : x % 2 = 1
    · have b1 : Nat.beq (x % 2) 1 = true := by rw [h1]; rfl
      rw [land_odd x h1, ctz_odd f h1]
      have e1 : bitsOf (f + 1) i x = i :: bitsOf f (i + 1) (x / 2) := by rw [bitsOf, b0, b1]; rfl
      rw [e1, Nat.add_zero]
      congr 1
      by_cases h2 : x - 1 = 0
      · rw [h2, show x / 2 = 0 by omega, bitsOf_zero, bitsOf_zero]
      · have b2 : Nat.beq (x - 1) 0 = false := by cases e : Nat.beq (x - 1) 0 with | false => rfl | true => exact absurd (Nat.eq_of_beq_eq_true e) h2
        have b3 : Nat.beq ((x - 1) % 2) 1 = false := by rw [show (x - 1) % 2 = 0 by omega]; rfl
        rw [bitsOf, b2, b3, show (x - 1) / 2 = x / 2 by omega]; rfl
    · have b1 : Nat.beq (x % 2) 1 = false := by rw [show x % 2 = 0 by omega]; rfl
      obtain ⟨y, rfl⟩ : ∃ y, x = 2 * y := ⟨x / 2, by omega⟩
      rw [land_even, ctz_even f h1, Nat.mul_div_cancel_left _ (by decide)]
      have e1 : bitsOf (f + 1) i (2 * y) = bitsOf f (i + 1) y := by rw [bitsOf, b0, b1, Nat.mul_div_cancel_left _ (by decide)]; rfl
      have e2 : bitsOf (f + 1) i (2 * (y &&& (y - 1))) = bitsOf f (i + 1) (y &&& (y - 1)) := by
        by_cases h2 : y &&& (y - 1) = 0
        · simp [h2, bitsOf_zero]
        · have b2 : Nat.beq (2 * (y &&& (y - 1))) 0 = false := by cases e : Nat.beq (2 * (y &&& (y - 1))) 0 with | false => rfl | true => exact absurd (Nat.eq_of_beq_eq_true e) (by omega)
          have b3 : Nat.beq (2 * (y &&& (y - 1)) % 2) 1 = false := by rw [show 2 * (y &&& (y - 1)) % 2 = 0 by omega]; rfl
          rw [bitsOf, b2, b3, Nat.mul_div_cancel_left _ (by decide)]; rfl
      rw [e1, e2, bitsOf_step f (i + 1) y (by omega) (by rw [Nat.pow_succ] at h; omega)]
      congr 1
      omega
theorem ctz_lt {x : Nat} (h0 : x ≠ 0) (h : x < 18446744073709551616) : Lib.ctz 64 x < 64 := (Lib.lowest_bit 64 x h0 h).2
theorem bits_step {i x : Nat} (h0 : x ≠ 0) (h : x < 18446744073709551616) : bitsOf 64 i x = (i + Lib.ctz 64 x) :: bitsOf 64 i (x &&& (x - 1)) := by
  rw [bitsOf_step 64 i x h0 h, Lib.ctz, if_neg h0]
end Go.Proofs.YthakhdbakmlooaaDoor
