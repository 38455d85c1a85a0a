/-
  The number of zero bits at the end of a word: by the table, where it lies as it is laid.
-/
import Derived.Test.YtgjphbkaonaneaaDoorRows
import Derived.WalkKit
import Derived.Handy
import Derived.Laws.Bits64b
import Derived.Lib.TrailingZeros
import Derived.Lib.Hide
import Derived.Test.YtgjphbkaonaneaaDoorEvX
import Derived.RangeFuncNested
import Derived.RangeFuncBound
import Derived.RangeFuncCalls
import Derived.RangeFuncLeaves
import Derived.Shelf.Abstract
import Derived.Shelf.RegionOpen
import Derived.OwnWalkIn
import Derived.TacticsInMore
import Derived.LoopNIn
import Derived.LoopIn
import Derived.Sort.QuietIn
import Derived.RangeFuncBox
import Derived.Maps.AppendAt
namespace Go.Proofs.YtgjphbkaonaneaaDoor
open Go Go.RowKit

/-- The table lies in its variable. -/
def TabIn (w : World) : Prop := ∀ j, j < Lib.deBruijn64tab.length → w.cell? ⟨0, j, none⟩ = some (.int .u8 (Lib.deBruijn64tab.getD j 0))
theorem TabIn.lt {w : World} (h : TabIn w) : 0 < w.heap.size := by
  have := h 0 (by decide)
  rcases Nat.eq_zero_or_pos w.heap.size with e | e
  · simp [World.cell?, Array.getElem?_eq_none (show w.heap.size ≤ 0 by omega)] at this
  · exact e
theorem TabIn.below {w w' : World} {B : Nat} (h : TabIn w) (hb : Below B w w') (hB : 0 < B) : TabIn w' := fun j hj => (hb.cell (p := ⟨0, j, none⟩) hB).trans (h j hj)
set_option maxHeartbeats 1000000 in
theorem tz_core (x k idx : Nat) (w : World) (hx0 : ((x : Int) == 0) = false)
    (key : IntKind.u64.wrap (bits BinOp.and IntKind.u64 (x : Int) (IntKind.u64.wrap (-(x : Int))) * 285870213051353865) / 288230376151711744 = (idx : Int))
    (hi : idx < 64) (hk : k < 64) (hcell : w.cell? ⟨0, idx, none⟩ = some (.int .u8 k)) :
    Calls Tryd.prog 100 #[.int .u64 x] w fun e w' => e = .returned (.int .i64 k) ∧ w' = w := by
  go_enter Tryd.func100, Tryd.ntmps100
  go_wp2_with (simp only [key])
  go_ret
  exact ⟨rfl, rfl⟩
theorem tz_zero (w : World) : Calls Tryd.prog 100 #[.int .u64 0] w fun e w' => e = .returned (.int .i64 64) ∧ w' = w := by
  go_enter Tryd.func100, Tryd.ntmps100
  go_wp2
  go_ret
  exact ⟨rfl, rfl⟩
theorem tz_key (x a : Nat) (hx : x < 18446744073709551616) (hx0 : x ≠ 0) (hlow : x &&& (18446744073709551616 - x) = a) :
    IntKind.u64.wrap (bits BinOp.and IntKind.u64 (x : Int) (IntKind.u64.wrap (-(x : Int))) * 285870213051353865) / 288230376151711744 = ((a * 285870213051353865 % 18446744073709551616 / 288230376151711744 : Nat) : Int) := by
  have e1 : IntKind.u64.wrap (-(x : Int)) = ((18446744073709551616 - x : Nat) : Int) := by rw [IntKind.wrap_u64]; omega
  rw [e1, bits_and_u64_nat x _ hx (by omega), hlow, IntKind.wrap_u64]
  omega
theorem tz_any (x : Nat) (hx : x < 18446744073709551616) (w : World) (hT : TabIn w) :
    Calls Tryd.prog 100 #[.int .u64 x] w fun e w' => e = .returned (.int .i64 (Lib.ctz 64 x)) ∧ w' = w := by
  by_cases hx0 : x = 0
  · subst hx0
    exact tz_zero w
  · obtain ⟨hlow, hk⟩ := Lib.lowest_bit 64 x hx0 hx
    obtain ⟨hi, htab⟩ := Lib.deBruijn64_at _ hk
    have hcell := hT _ hi
    rw [htab] at hcell
    exact tz_core x _ _ w (by simp; omega) (tz_key x _ hx hx0 hlow) hi hk hcell
end Go.Proofs.YtgjphbkaonaneaaDoor

/-
  The bits of words, one by one; numbers in order as ranges.
-/
namespace Go.Proofs.YtgjphbkaonaneaaDoor
open Go Go.Ev

theorem land_even (y : Nat) : (2 * y) &&& (2 * y - 1) = 2 * (y &&& (y - 1)) := by
  apply Nat.eq_of_testBit_eq
  intro k
  rw [Nat.testBit_and]
  cases k with
  | zero => simp [Nat.testBit_zero]
  | succ k =>
    rw [Nat.testBit_succ, Nat.testBit_succ, Nat.testBit_succ, Nat.mul_div_cancel_left _ (by decide), Nat.mul_div_cancel_left _ (by decide), show (2 * y - 1) / 2 = y - 1 by omega, Nat.testBit_and]
theorem land_odd (x : Nat) (h : x % 2 = 1) : x &&& (x - 1) = x - 1 := by
  apply Nat.eq_of_testBit_eq
  intro k
  rw [Nat.testBit_and]
  cases k with
  | zero => simp [Nat.testBit_zero]; omega
  | succ k => rw [Nat.testBit_succ, Nat.testBit_succ, show (x - 1) / 2 = x / 2 by omega, Bool.and_self]
theorem land_lt {x : Nat} (h : x ≠ 0) : x &&& (x - 1) < x := Nat.lt_of_le_of_lt Nat.and_le_right (by omega)
theorem bitsOf_zero : ∀ f i, bitsOf f i 0 = []
  | 0, _ => rfl
  | _ + 1, _ => rfl
theorem ctz_odd {x : Nat} (f : Nat) (h : x % 2 = 1) : Lib.ctzFrom (f + 1) x = 0 := by unfold Lib.ctzFrom; rw [if_pos h]
theorem ctz_even {x : Nat} (f : Nat) (h : ¬ x % 2 = 1) : Lib.ctzFrom (f + 1) x = Lib.ctzFrom f (x / 2) + 1 := by rw [Lib.ctzFrom, if_neg h, Nat.add_comm]
theorem bitsOf_step : ∀ (f i x : Nat), x ≠ 0 → x < 2 ^ f → bitsOf f i x = (i + Lib.ctzFrom f x) :: bitsOf f i (x &&& (x - 1))
  | 0, _, x, h0, h => by simp at h; omega
  | f + 1, i, x, h0, h => by
    have b0 : Nat.beq x 0 = false := by cases e : Nat.beq x 0 with | false => rfl | true => exact absurd (Nat.eq_of_beq_eq_true e) h0
    by_cases h1 : x % 2 = 1
    · have b1 : Nat.beq (x % 2) 1 = true := by rw [h1]; rfl
      rw [land_odd x h1, ctz_odd f h1]
      have e1 : bitsOf (f + 1) i x = i :: bitsOf f (i + 1) (x / 2) := by rw [bitsOf, b0, b1]; rfl
      rw [e1, Nat.add_zero]
      congr 1
      by_cases h2 : x - 1 = 0
      · rw [h2, show x / 2 = 0 by omega, bitsOf_zero, bitsOf_zero]
      · have b2 : Nat.beq (x - 1) 0 = false := by cases e : Nat.beq (x - 1) 0 with | false => rfl | true => exact absurd (Nat.eq_of_beq_eq_true e) h2
        have b3 : Nat.beq ((x - 1) % 2) 1 = false := by rw [show (x - 1) % 2 = 0 by omega]; rfl
        rw [bitsOf, b2, b3, show (x - 1) / 2 = x / 2 by omega]; rfl
    · have b1 : Nat.beq (x % 2) 1 = false := by rw [show x % 2 = 0 by omega]; rfl
      obtain ⟨y, rfl⟩ : ∃ y, x = 2 * y := ⟨x / 2, by omega⟩
      rw [land_even, ctz_even f h1, Nat.mul_div_cancel_left _ (by decide)]
      have e1 : bitsOf (f + 1) i (2 * y) = bitsOf f (i + 1) y := by rw [bitsOf, b0, b1, Nat.mul_div_cancel_left _ (by decide)]; rfl
      have e2 : bitsOf (f + 1) i (2 * (y &&& (y - 1))) = bitsOf f (i + 1) (y &&& (y - 1)) := by
        by_cases h2 : y &&& (y - 1) = 0
        · simp [h2, bitsOf_zero]
        · have b2 : Nat.beq (2 * (y &&& (y - 1))) 0 = false := by cases e : Nat.beq (2 * (y &&& (y - 1))) 0 with | false => rfl | true => exact absurd (Nat.eq_of_beq_eq_true e) (by omega)
          have b3 : Nat.beq (2 * (y &&& (y - 1)) % 2) 1 = false := by rw [show 2 * (y &&& (y - 1)) % 2 = 0 by omega]; rfl
          rw [bitsOf, b2, b3, Nat.mul_div_cancel_left _ (by decide)]; rfl
      rw [e1, e2, bitsOf_step f (i + 1) y (by omega) (by rw [Nat.pow_succ] at h; omega)]
      congr 1
      omega
theorem ctz_lt {x : Nat} (h0 : x ≠ 0) (h : x < 18446744073709551616) : Lib.ctz 64 x < 64 := (Lib.lowest_bit 64 x h0 h).2
theorem bits_step {i x : Nat} (h0 : x ≠ 0) (h : x < 18446744073709551616) : bitsOf 64 i x = (i + Lib.ctz 64 x) :: bitsOf 64 i (x &&& (x - 1)) := by
  rw [bitsOf_step 64 i x h0 h, Lib.ctz, if_neg h0]
theorem bitsOf_len : ∀ f i x, (bitsOf f i x).length ≤ f
  | 0, _, _ => Nat.le_refl _
  | f + 1, i, x => by
    rw [bitsOf]
    split
    · simp
    · split
      · have := bitsOf_len f (i + 1) (x / 2); simp; omega
      · have := bitsOf_len f (i + 1) (x / 2); omega
end Go.Proofs.YtgjphbkaonaneaaDoor
