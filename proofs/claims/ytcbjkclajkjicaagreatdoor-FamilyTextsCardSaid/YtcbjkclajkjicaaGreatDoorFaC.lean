/-
  The number of zero bits at the end of a word: by the table, where it lies as it is laid.
-/
import Derived.Test.YtcbjkclajkjicaaGreatDoorRows
import Derived.WalkKit
import Derived.Handy
import Derived.Laws.Bits64b
import Derived.Lib.TrailingZeros
import Derived.Lib.Hide
import Derived.Test.YtcbjkclajkjicaaGreatDoorEvX
import Derived.RangeFuncNested
import Derived.RangeFuncBound
import Derived.RangeFuncCalls
import Derived.RangeFuncLeaves
import Derived.Shelf.Abstract
import Derived.Shelf.RegionOpen
import Derived.OwnWalkIn
import Derived.TacticsInMore
import Derived.LoopNIn
import Derived.LoopIn
import Derived.Sort.QuietIn
import Derived.RangeFuncBox
import Derived.Maps.AppendAt
import Derived.Test.YtcbjkclajkjicaaGreatDoorFrA
namespace Go.Proofs.YtcbjkclajkjicaaGreatDoor
open Go Go.RowKit

/-- The table lies in its variable. -/
def TabIn (w : World) : Prop := ∀ j, j < Lib.deBruijn64tab.length → w.cell? ⟨1, j, none⟩ = some (.int .u8 (Lib.deBruijn64tab.getD j 0))
theorem TabIn.lt {w : World} (h : TabIn w) : 1 < w.heap.size := by
  have := h 0 (by decide)
  rcases Nat.lt_or_ge 1 w.heap.size with e | e
  · exact e
  · simp [World.cell?, Array.getElem?_eq_none (show w.heap.size ≤ 1 by omega)] at this
theorem TabIn.below {w w' : World} {B : Nat} (h : TabIn w) (hb : Below B w w') (hB : 1 < B) : TabIn w' := fun j hj => (hb.cell (p := ⟨1, j, none⟩) hB).trans (h j hj)
set_option maxHeartbeats 1000000 in
theorem tz_core (x k idx : Nat) (w : World) (hx0 : ((x : Int) == 0) = false)
    (key : IntKind.u64.wrap (bits BinOp.and IntKind.u64 (x : Int) (IntKind.u64.wrap (-(x : Int))) * 285870213051353865) / 288230376151711744 = (idx : Int))
    (hi : idx < 64) (hk : k < 64) (hcell : w.cell? ⟨1, idx, none⟩ = some (.int .u8 k)) :
    Calls Tryz.prog 85 #[.int .u64 x] w fun e w' => e = .returned (.int .i64 k) ∧ w' = w := by
  go_enter Tryz.func85, Tryz.ntmps85
  go_wp2_with (simp only [key])
  go_ret
  exact ⟨rfl, rfl⟩
theorem tz_zero (w : World) : Calls Tryz.prog 85 #[.int .u64 0] w fun e w' => e = .returned (.int .i64 64) ∧ w' = w := by
  go_enter Tryz.func85, Tryz.ntmps85
  go_wp2
  go_ret
  exact ⟨rfl, rfl⟩
theorem tz_key (x a : Nat) (hx : x < 18446744073709551616) (hx0 : x ≠ 0) (hlow : x &&& (18446744073709551616 - x) = a) :
    IntKind.u64.wrap (bits BinOp.and IntKind.u64 (x : Int) (IntKind.u64.wrap (-(x : Int))) * 285870213051353865) / 288230376151711744 = ((a * 285870213051353865 % 18446744073709551616 / 288230376151711744 : Nat) : Int) := by
  have e1 : IntKind.u64.wrap (-(x : Int)) = ((18446744073709551616 - x : Nat) : Int) := by rw [IntKind.wrap_u64]; omega
  rw [e1, bits_and_u64_nat x _ hx (by omega), hlow, IntKind.wrap_u64]
  omega
theorem tz_any (x : Nat) (hx : x < 18446744073709551616) (w : World) (hT : TabIn w) :
    Calls Tryz.prog 85 #[.int .u64 x] w fun e w' => e = .returned (.int .i64 (Lib.ctz 64 x)) ∧ w' = w := by
  by_cases hx0 : x = 0
  · subst hx0
    exact tz_zero w
  · obtain ⟨hlow, hk⟩ := Lib.lowest_bit 64 x hx0 hx
    obtain ⟨hi, htab⟩ := Lib.deBruijn64_at _ hk
    have hcell := hT _ hi
    rw [htab] at hcell
    exact tz_core x _ _ w (by simp; omega) (tz_key x _ hx hx0 hlow) hi hk hcell
end Go.Proofs.YtcbjkclajkjicaaGreatDoor

/-
  The bits of words, one by one; numbers in order as ranges.
-/
namespace Go.Proofs.YtcbjkclajkjicaaGreatDoor
open Go Go.Ev

theorem land_even (y : Nat) : (2 * y) &&& (2 * y - 1) = 2 * (y &&& (y - 1)) := by
  apply Nat.eq_of_testBit_eq
  intro k
  rw [Nat.testBit_and]
  cases k with
  | zero => simp [Nat.testBit_zero]
  | succ k =>
    rw [Nat.testBit_succ, Nat.testBit_succ, Nat.testBit_succ, Nat.mul_div_cancel_left _ (by decide), Nat.mul_div_cancel_left _ (by decide), show (2 * y - 1) / 2 = y - 1 by omega, Nat.testBit_and]
theorem land_odd (x : Nat) (h : x % 2 = 1) : x &&& (x - 1) = x - 1 := by
  apply Nat.eq_of_testBit_eq
  intro k
  rw [Nat.testBit_and]
  cases k with
  | zero => simp [Nat.testBit_zero]; omega
  | succ k => rw [Nat.testBit_succ, Nat.testBit_succ, show (x - 1) / 2 = x / 2 by omega, Bool.and_self]
theorem land_lt {x : Nat} (h : x ≠ 0) : x &&& (x - 1) < x := Nat.lt_of_le_of_lt Nat.and_le_right (by omega)
theorem bitsOf_zero : ∀ f i, bitsOf f i 0 = []
  | 0, _ => rfl
  | _ + 1, _ => rfl
theorem ctz_odd {x : Nat} (f : Nat) (h : x % 2 = 1) : Lib.ctzFrom (f + 1) x = 0 := by unfold Lib.ctzFrom; rw [if_pos h]
theorem ctz_even {x : Nat} (f : Nat) (h : ¬ x % 2 = 1) : Lib.ctzFrom (f + 1) x = Lib.ctzFrom f (x / 2) + 1 := by rw [Lib.ctzFrom, if_neg h, Nat.add_comm]
theorem bitsOf_step : ∀ (f i x : Nat), x ≠ 0 → x < 2 ^ f → bitsOf f i x = (i + Lib.ctzFrom f x) :: bitsOf f i (x &&& (x - 1))
  | 0, _, x, h0, h => by simp at h; omega
  | f + 1, i, x, h0, h => by
    have b0 : Nat.beq x 0 = false := by cases e : Nat.beq x 0 with | false => rfl | true => exact absurd (Nat.eq_of_beq_eq_true e) h0
    by_cases h1 : x % 2 = 1
    · have b1 : Nat.beq (x % 2) 1 = true := by rw [h1]; rfl
      rw [land_odd x h1, ctz_odd f h1]
      have e1 : bitsOf (f + 1) i x = i :: bitsOf f (i + 1) (x / 2) := by rw [bitsOf, b0, b1]; rfl
      rw [e1, Nat.add_zero]
      congr 1
      by_cases h2 : x - 1 = 0
      · rw [h2, show x / 2 = 0 by omega, bitsOf_zero, bitsOf_zero]
      · have b2 : Nat.beq (x - 1) 0 = false := by cases e : Nat.beq (x - 1) 0 with | false => rfl | true => exact absurd (Nat.eq_of_beq_eq_true e) h2
        have b3 : Nat.beq ((x - 1) % 2) 1 = false := by rw [show (x - 1) % 2 = 0 by omega]; rfl
        rw [bitsOf, b2, b3, show (x - 1) / 2 = x / 2 by omega]; rfl
    · have b1 : Nat.beq (x % 2) 1 = false := by rw [show x % 2 = 0 by omega]; rfl
      obtain ⟨y, rfl⟩ : ∃ y, x = 2 * y := ⟨x / 2, by omega⟩
      rw [land_even, ctz_even f h1, Nat.mul_div_cancel_left _ (by decide)]
      have e1 : bitsOf (f + 1) i (2 * y) = bitsOf f (i + 1) y := by rw [bitsOf, b0, b1, Nat.mul_div_cancel_left _ (by decide)]; rfl
      have e2 : bitsOf (f + 1) i (2 * (y &&& (y - 1))) = bitsOf f (i + 1) (y &&& (y - 1)) := by
        by_cases h2 : y &&& (y - 1) = 0
        · simp [h2, bitsOf_zero]
        · have b2 : Nat.beq (2 * (y &&& (y - 1))) 0 = false := by cases e : Nat.beq (2 * (y &&& (y - 1))) 0 with | false => rfl | true => exact absurd (Nat.eq_of_beq_eq_true e) (by omega)
          have b3 : Nat.beq (2 * (y &&& (y - 1)) % 2) 1 = false := by rw [show 2 * (y &&& (y - 1)) % 2 = 0 by omega]; rfl
          rw [bitsOf, b2, b3, Nat.mul_div_cancel_left _ (by decide)]; rfl
      rw [e1, e2, bitsOf_step f (i + 1) y (by omega) (by rw [Nat.pow_succ] at h; omega)]
      congr 1
      omega
theorem ctz_lt {x : Nat} (h0 : x ≠ 0) (h : x < 18446744073709551616) : Lib.ctz 64 x < 64 := (Lib.lowest_bit 64 x h0 h).2
theorem bits_step {i x : Nat} (h0 : x ≠ 0) (h : x < 18446744073709551616) : bitsOf 64 i x = (i + Lib.ctz 64 x) :: bitsOf 64 i (x &&& (x - 1)) := by
  rw [bitsOf_step 64 i x h0 h, Lib.ctz, if_neg h0]
theorem bitsOf_len : ∀ f i x, (bitsOf f i x).length ≤ f
  | 0, _, _ => Nat.le_refl _
  | f + 1, i, x => by
    rw [bitsOf]
    split
    · simp
    · split
      · have := bitsOf_len f (i + 1) (x / 2); simp; omega
      · have := bitsOf_len f (i + 1) (x / 2); omega
end Go.Proofs.YtcbjkclajkjicaaGreatDoor

/-
  The iterator over a family's set: a word in a variable of its own, taken apart bit by bit.
-/
namespace Go.Proofs.YtcbjkclajkjicaaGreatDoor
open Go Go.RowKit Go.Shelf Go.Ev

attribute [local go_sem] Oper.semAt_some

def ownStep (Bn : Nat) (X Y : World) : Prop := Below Bn X Y ∧ Y.heap.size = X.heap.size ∧ ∀ k, k ≠ Bn → Y.heap[k]? = X.heap[k]?
theorem ownStep.set {Bn : Nat} (X : World) (v : Value) : ownStep Bn X (X.setCell ⟨Bn, 0, none⟩ v) := ⟨(Below.refl _ X).setCell (p := ⟨Bn, 0, none⟩) (Nat.le_refl _) v, by simp, fun k hk => Below.heap_setCell _ _ _ k hk⟩
theorem ownStep.drew {Bn : Nat} (X : World) (k : Nat) : ownStep Bn X (X.drewN k) := ⟨⟨rfl, rfl, rfl, Nat.le_refl _, fun _ _ => rfl⟩, rfl, fun _ _ => rfl⟩
def cellNat (W : World) (b : Nat) : Nat := match W.cell? ⟨b, 0, none⟩ with
  | some (.int _ x) => x.toNat
  | _ => 0
def Word (W : World) (b x : Nat) : Prop := W.heap[b]? = some (.cells #[.int .u64 (x : Nat)] 56 (0, 0))
theorem Word.cell {W : World} {b x : Nat} (h : Word W b x) : W.cell? ⟨b, 0, none⟩ = some (.int .u64 (x : Nat)) := by
  simp only [World.cell?, show W.heap[b]? = _ from h]; rfl
theorem Word.free {W : World} {b x : Nat} (h : Word W b x) : W.frozen? ⟨b, 0, none⟩ = false := by
  simp [World.frozen?, show W.heap[b]? = _ from h]
theorem Word.put {W : World} {b x : Nat} (h : Word W b x) (y : Nat) : Word (W.setCell ⟨b, 0, none⟩ (.int .u64 (y : Nat))) b y := heap_setCell_same _ b 0 _ _ _ h
abbrev Bit := Fin 64
set_option maxRecDepth 100000 in
set_option maxHeartbeats 4000000 in
theorem fall1_goes (n : Nat) (hn : 2 ≤ n) (Bn x0 : Nat) (hB : 1 < Bn) (hx0 : x0 < 18446744073709551616) :
    GoesAll Fence.wide n Tryz.prog 84 #[.pointer (some ⟨Bn, 0, none⟩)] (fun x : Bit => #[Value.int .i64 x.1]) (ownStep Bn) (Below (Bn + 1)) (fun ys => ys.map Fin.val = bitsOf 64 0 x0) (bitsOf 64 0 x0).length (fun W => Word W Bn x0 ∧ TabIn W) := by
  intro l J W ⟨hW, hT⟩ hS hY h0
  have hS := Lib.hid hS
  refine callsIn_of_wp Tryz.func84 rfl trivial ?_ rfl
  simp only [Tryz.ntmps84, List.size_toArray, List.length_cons, List.length_nil, Nat.reduceAdd, Nat.reduceSub, Array.replicate_succ, Array.replicate_zero, List.push_toArray, List.append_toArray, List.nil_append, List.cons_append]
  generalize hAB : bitsOf 64 0 x0 = AB at *
  gi_wp2
  gi_loopw [] (fun wr => ∃ (pre : List Bit) (x : Nat), x < 18446744073709551616 ∧ Word wr Bn x ∧ AB = pre.map Fin.val ++ bitsOf 64 0 x ∧ J pre wr ∧ TabIn wr)
    (fun wr => cellNat wr Bn)
  case atStart => exact ⟨[], x0, hx0, hW, by rw [hAB]; rfl, h0, hT⟩
  case round =>
    obtain ⟨pre, x, hxl, hw, hx, hJs, hTs⟩ := hrel
    have hc := hw.cell
    by_cases h0 : x = 0
    · subst h0
      gi_wp2
      go_end0
      rw [bitsOf_zero, List.append_nil] at hx
      exact ⟨⟨_, rfl⟩, pre, hx.symm, hJs⟩
    · have hb := bits_step (i := 0) h0 hxl
      have hcl := ctz_lt h0 hxl
      rw [hb] at hx
      have TT := fun w (h : TabIn w) => callsIn_wide (n := n - 1).2 (tz_any x hxl w h)
      generalize Lib.ctz 64 x = c at *
      have hlen : pre.length < AB.length := by rw [hx]; simp
      obtain ⟨fn, tmps, assign, body, hy, hR⟩ := hY pre ⟨c, hcl⟩ wr hJs hlen
      have hneq : ((x : Int) != 0) = true := by simpa using h0
      dsimp only at hy
      have w1 : IntKind.u64.wrap ((x : Int) - 1) = ((x - 1 : Nat) : Int) := by rw [IntKind.wrap_u64]; omega
      have w2 := bits_and_u64_nat x (x - 1) hxl (by omega)
      gi_wp2_with (refine ⟨trivial, fun _ => by omega, ?_⟩; gi_at_call 85; refine (TT _ hTs).mono ?_; rintro e w' ⟨rfl, rfl⟩)
      refine ⟨fun _ => by omega, hR.mono ?_⟩
      rintro e W3 ⟨rfl, hJ3, hk3⟩
      have hw3 : Word W3 Bn x := (hk3.block Bn (Nat.lt_succ_self _)).trans hw
      have hc3 := hw3.cell
      have hf3 := hw3.free
      have HH := Lib.hid (And.intro hJ3 (And.intro hw3 (hTs.below hk3 (by omega))))
      have HX := Lib.hid hx
      have HC := Lib.hid (show cellNat w' Bn = x by simp only [cellNat, hw.cell, Int.toNat_natCast])
      clear hJ3 hk3 hw3 hw hc hJs hTs hR hy hx
      gi_wp2
      go_roundw
      case rel =>
        obtain ⟨j, hw, ht⟩ := HH.out
        exact ⟨pre ++ [⟨c, hcl⟩], x &&& (x - 1), Nat.lt_of_le_of_lt Nat.and_le_left hxl, hw.put _, by rw [HX.out]; simp, hS.out _ _ _ j (ownStep.set _ _), ht.below (ownStep.set _ _).1 hB⟩
      case measure =>
        obtain ⟨j, hw, ht⟩ := HH.out
        have := land_lt h0
        rw [HC.out]
        simp only [cellNat, (hw.put _).cell, Int.toNat_natCast]
        exact this
end Go.Proofs.YtcbjkclajkjicaaGreatDoor
