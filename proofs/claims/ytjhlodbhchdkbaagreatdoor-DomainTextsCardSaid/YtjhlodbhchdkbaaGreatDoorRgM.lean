/-
  The bits of words, one by one; numbers in order as ranges.
-/
import Derived.Test.YtjhlodbhchdkbaaGreatDoorEvX
import Derived.Lib.TrailingZeros
import Derived.RangeFuncNested
import Derived.RangeFuncBound
import Derived.RangeFuncCalls
import Derived.RangeFuncLeaves
import Derived.Shelf.Abstract
import Derived.Shelf.RegionOpen
import Derived.WalkKit
import Derived.OwnWalkIn
import Derived.TacticsInMore
import Derived.LoopNIn
import Derived.LoopIn
import Derived.Sort.QuietIn
import Derived.Test.YtjhlodbhchdkbaaGreatDoorAwTz
import Derived.RangeFuncBox
import Derived.Maps.AppendAt
namespace Go.Proofs.YtjhlodbhchdkbaaGreatDoor
open Go Go.Ev

theorem land_even (y : Nat) : (2 * y) &&& (2 * y - 1) = 2 * (y &&& (y - 1)) := by
  apply Nat.eq_of_testBit_eq
  intro k
  rw [Nat.testBit_and]
  cases k with
  | zero => simp [Nat.testBit_zero]
  | succ k =>
    rw [Nat.testBit_succ, Nat.testBit_succ, Nat.testBit_succ, Nat.mul_div_cancel_left _ (by decide), Nat.mul_div_cancel_left _ (by decide), show (2 * y - 1) / 2 = y - 1 by omega, Nat.testBit_and]
theorem land_odd (x : Nat) (h : x % 2 = 1) : x &&& (x - 1) = x - 1 := by
  apply Nat.eq_of_testBit_eq
  intro k
  rw [Nat.testBit_and]
  cases k with
  | zero => simp [Nat.testBit_zero]; omega
  | succ k => rw [Nat.testBit_succ, Nat.testBit_succ, show (x - 1) / 2 = x / 2 by omega, Bool.and_self]
theorem land_lt {x : Nat} (h : x ≠ 0) : x &&& (x - 1) < x := Nat.lt_of_le_of_lt Nat.and_le_right (by omega)
theorem bitsOf_zero : ∀ f i, bitsOf f i 0 = []
  | 0, _ => rfl
  | _ + 1, _ => rfl
theorem ctz_odd {x : Nat} (f : Nat) (h : x % 2 = 1) : Lib.ctzFrom (f + 1) x = 0 := by unfold Lib.ctzFrom; rw [if_pos h]
theorem ctz_even {x : Nat} (f : Nat) (h : ¬ x % 2 = 1) : Lib.ctzFrom (f + 1) x = Lib.ctzFrom f (x / 2) + 1 := by rw [Lib.ctzFrom, if_neg h, Nat.add_comm]
theorem bitsOf_step : ∀ (f i x : Nat), x ≠ 0 → x < 2 ^ f → bitsOf f i x = (i + Lib.ctzFrom f x) :: bitsOf f i (x &&& (x - 1))
  | 0, _, x, h0, h => by simp at h; omega
  | f + 1, i, x, h0, h => by
    have b0 : Nat.beq x 0 = false := by cases e : Nat.beq x 0 with | false => rfl | true => exact absurd (Nat.eq_of_beq_eq_true e) h0
    by_cases h1 : x % 2 = 1
    · have b1 : Nat.beq (x % 2) 1 = true := by rw [h1]; rfl
      rw [land_odd x h1, ctz_odd f h1]
      have e1 : bitsOf (f + 1) i x = i :: bitsOf f (i + 1) (x / 2) := by rw [bitsOf, b0, b1]; rfl
      rw [e1, Nat.add_zero]
      congr 1
      by_cases h2 : x - 1 = 0
      · rw [h2, show x / 2 = 0 by omega, bitsOf_zero, bitsOf_zero]
      · have b2 : Nat.beq (x - 1) 0 = false := by cases e : Nat.beq (x - 1) 0 with | false => rfl | true => exact absurd (Nat.eq_of_beq_eq_true e) h2
        have b3 : Nat.beq ((x - 1) % 2) 1 = false := by rw [show (x - 1) % 2 = 0 by omega]; rfl
        rw [bitsOf, b2, b3, show (x - 1) / 2 = x / 2 by omega]; rfl
    · have b1 : Nat.beq (x % 2) 1 = false := by rw [show x % 2 = 0 by omega]; rfl
      obtain ⟨y, rfl⟩ : ∃ y, x = 2 * y := ⟨x / 2, by omega⟩
      rw [land_even, ctz_even f h1, Nat.mul_div_cancel_left _ (by decide)]
      have e1 : bitsOf (f + 1) i (2 * y) = bitsOf f (i + 1) y := by rw [bitsOf, b0, b1, Nat.mul_div_cancel_left _ (by decide)]; rfl
      have e2 : bitsOf (f + 1) i (2 * (y &&& (y - 1))) = bitsOf f (i + 1) (y &&& (y - 1)) := by
        by_cases h2 : y &&& (y - 1) = 0
        · simp [h2, bitsOf_zero]
        · have b2 : Nat.beq (2 * (y &&& (y - 1))) 0 = false := by cases e : Nat.beq (2 * (y &&& (y - 1))) 0 with | false => rfl | true => exact absurd (Nat.eq_of_beq_eq_true e) (by omega)
          have b3 : Nat.beq (2 * (y &&& (y - 1)) % 2) 1 = false := by rw [show 2 * (y &&& (y - 1)) % 2 = 0 by omega]; rfl
          rw [bitsOf, b2, b3, Nat.mul_div_cancel_left _ (by decide)]; rfl
      rw [e1, e2, bitsOf_step f (i + 1) y (by omega) (by rw [Nat.pow_succ] at h; omega)]
      congr 1
      omega
theorem ctz_lt {x : Nat} (h0 : x ≠ 0) (h : x < 18446744073709551616) : Lib.ctz 64 x < 64 := (Lib.lowest_bit 64 x h0 h).2
theorem bits_step {i x : Nat} (h0 : x ≠ 0) (h : x < 18446744073709551616) : bitsOf 64 i x = (i + Lib.ctz 64 x) :: bitsOf 64 i (x &&& (x - 1)) := by
  rw [bitsOf_step 64 i x h0 h, Lib.ctz, if_neg h0]
theorem bitsOf_len : ∀ f i x, (bitsOf f i x).length ≤ f
  | 0, _, _ => Nat.le_refl _
  | f + 1, i, x => by
    rw [bitsOf]
    split
    · simp
    · split
      · have := bitsOf_len f (i + 1) (x / 2); simp; omega
      · have := bitsOf_len f (i + 1) (x / 2); omega
theorem allBits_len : ∀ (k : Nat) (ws : List Nat), (allBits k ws).length ≤ 64 * ws.length
  | _, [] => by simp [allBits]
  | k, w :: ws => by
    have h1 := bitsOf_len 64 (64 * k) w
    have h2 := allBits_len (k + 1) ws
    simp [allBits]
    omega

/-! ### ranges -/
theorem addNum_len (r : List (Nat × Nat)) (v : Nat) : (addNum r v).length ≤ r.length + 1 := by
  unfold addNum
  split
  · simp
  · split <;> simp
theorem fold_len : ∀ (l : List Nat) (r : List (Nat × Nat)), (l.foldl addNum r).length ≤ r.length + l.length
  | [], r => by simp
  | v :: l, r => by
    have h1 := fold_len l (addNum r v)
    have h2 := addNum_len r v
    simp
    omega
theorem pairCells_append : ∀ (a b : List (Nat × Nat)), pairCells (a ++ b) = pairCells a ++ pairCells b
  | [], _ => rfl
  | (x, y) :: a, b => by simp [pairCells, pairCells_append a b]
theorem pairCells_len : ∀ (a : List (Nat × Nat)), (pairCells a).length = a.length * 2
  | [] => rfl
  | (x, y) :: a => by simp [pairCells, pairCells_len a]; omega
end Go.Proofs.YtjhlodbhchdkbaaGreatDoor

/-
  The iterator over a set's numbers.
-/
namespace Go.Proofs.YtjhlodbhchdkbaaGreatDoor
open Go Go.RowKit Go.Shelf Go.Ev

attribute [local go_sem] Oper.semAt_some

abbrev Elem := Fin 1024
/-- sixteen words, at a place -/
def WordsAt (W : World) (sb so : Nat) (ws : List Nat) : Prop := ws.length = 16 ∧ (∀ x ∈ ws, x < 18446744073709551616) ∧ ∀ j (h : j < ws.length), W.cell? ⟨sb, so + j, none⟩ = some (.int .u64 ws[j])
theorem WordsAt.below {n₀ : Nat} {W W' : World} {sb so : Nat} {ws : List Nat} (h : WordsAt W sb so ws) (hb : Below n₀ W W') (hs : sb < n₀) : WordsAt W' sb so ws := ⟨h.1, h.2.1, fun j hj => (hb.cell (p := ⟨sb, so + j, none⟩) hs).trans (h.2.2 j hj)⟩

set_option maxRecDepth 100000 in
set_option maxHeartbeats 4000000 in
theorem all1_in (n : Nat) (hn : 2 ≤ n) (l Bn n₀ sb so : Nat) (ws : List Nat) (hgn : 4 < n₀) (hsb : sb < n₀) (J Jx : List Elem → World → Prop)
    (hY : ∀ pre x W, J pre W → pre.length < (allBits 0 ws).length → YieldAt Fence.wide (n - 1) Tryz.prog l #[.int .i64 (x : Elem).1] W fun e W' =>
      (e = .returned (.bool true) ∧ J (pre ++ [x]) W' ∧ Below n₀ W W') ∨ (e = .returned (.bool false) ∧ Jx (pre ++ [x]) W'))
    (W : World) (hBn : W.cell? ⟨Bn, 0, none⟩ = some (.pointer (some ⟨sb, so, none⟩))) (hW : WordsAt W sb so ws) (hTab : TabIn W) (h0 : J [] W)
    (hJ : ∀ pre W k, J pre W → J pre (W.drewN k)) :
    CallsIn Fence.wide n Tryz.prog 88 #[.func (.yield l) #[] #[], .pointer (some ⟨Bn, 0, none⟩)] W fun e W' => (∃ v, e = .returned v) ∧
      ((∃ ys : List Elem, ys.map Fin.val = allBits 0 ws ∧ J ys W') ∨ (∃ pre : List Elem, pre.map Fin.val <+: allBits 0 ws ∧ Jx pre W')) := by
  refine callsIn_of_wp Tryz.func88 rfl trivial ?_ rfl
  simp only [Tryz.ntmps88, List.size_toArray, List.length_cons, List.length_nil, Nat.reduceAdd, Nat.reduceSub, Array.replicate_succ, Array.replicate_zero, List.push_toArray, List.append_toArray, List.nil_append, List.cons_append]
  gi_wp2
  gi_loopw [6] (fun i wr => ∃ (k : Nat) (pre : List Elem), k ≤ 16 ∧ i = .int .i64 k ∧ allBits 0 ws = pre.map Fin.val ++ allBits k (ws.drop k) ∧ J pre wr ∧ Below n₀ W wr)
    (fun i _ => 16 - (intOf i).toNat)
  case atStart => exact ⟨0, [], Nat.zero_le _, rfl, by simp, h0, Below.refl _ _⟩
  case round =>
    obtain ⟨k, pre, hk, rfl, hx, hJs, hB⟩ := hrel
    by_cases hlt : k < 16
    · have hwl := hW.1
      have hlk : k < ws.length := by omega
      have hc := (hB.cell (p := ⟨sb, so + k, none⟩) hsb).trans (hW.2.2 k hlk)
      have hwx := hW.2.1 _ (List.getElem_mem hlk)
      have hd : ws.drop k = ws[k] :: ws.drop (k + 1) := List.drop_eq_getElem_cons hlk
      rw [hd] at hx
      generalize ws[k] = x0 at *
      have z1 : (k : Int) < 16 := by omega
      have z2 : (0 : Int) ≤ (k : Int) := by omega
      gi_wp2
      gi_quiet (fail)
      gi_wp2
      have ax : allBits k (x0 :: ws.drop (k + 1)) = bitsOf 64 (64 * k) x0 ++ allBits (k + 1) (ws.drop (k + 1)) := rfl
      rw [ax] at hx
      generalize hAB : allBits 0 ws = AB at hx hY ⊢
      gi_loopw [4] (fun v wr => ∃ (pre : List Elem) (x : Nat), x < 18446744073709551616 ∧ v = .int .u64 x ∧ AB = pre.map Fin.val ++ (bitsOf 64 (64 * k) x ++ allBits (k + 1) (ws.drop (k + 1))) ∧ J pre wr ∧ Below n₀ W wr)
        (fun v _ => (intOf v).toNat)
      case atStart => exact ⟨pre, x0, hwx, rfl, hx, hJ _ _ _ hJs, hB.trans ⟨rfl, rfl, rfl, Nat.le_refl _, fun _ _ => rfl⟩⟩
      case round =>
        obtain ⟨pre, x, hxl, rfl, hx, hJs, hB⟩ := hrel
        by_cases h0 : x = 0
        · subst h0
          gi_wp2
          go_roundw
          case rel => exact ⟨k + 1, pre, by omega, by go_num, by rw [hAB, hx, bitsOf_zero]; rfl, hJs, hB⟩
          case measure => simp [intOf]; omega
        · have hb := bits_step (i := 64 * k) h0 hxl
          have hcl := ctz_lt h0 hxl
          rw [hb] at hx
          have TT := fun w (h : TabIn w) => callsIn_wide (n := n - 1).2 (tz_any x hxl w h)
          generalize Lib.ctz 64 x = c at *
          have hlen : pre.length < AB.length := by rw [hx]; simp
          obtain ⟨fn, tmps, assign, body, hy, hR⟩ := hY pre ⟨64 * k + c, by omega⟩ wr hJs hlen
          have hneq : ((x : Int) != 0) = true := by simpa using h0
          dsimp only at hy
          rw [show (((64 * k + c : Nat) : Int)) = 64 * (k : Int) + (c : Int) by omega] at hy
          have w1 : IntKind.u64.wrap ((x : Int) - 1) = ((x - 1 : Nat) : Int) := by rw [IntKind.wrap_u64]; omega
          have w2 := bits_and_u64_nat x (x - 1) hxl (by omega)
          gi_wp2_with (refine ⟨trivial, fun _ => by omega, ?_⟩; gi_at_call 77; refine (TT _ (TabIn.below hTab hB (by omega))).mono ?_; rintro e w' ⟨rfl, rfl⟩)
          refine ⟨fun _ => by omega, hR.mono ?_⟩
          rintro e W3 (⟨rfl, hJ3, hk3⟩ | ⟨rfl, hJx3⟩)
          · gi_wp2
            go_roundw
            case rel => exact ⟨pre ++ [⟨64 * k + c, by omega⟩], x &&& (x - 1), Nat.lt_of_le_of_lt Nat.and_le_left hxl, rfl, by rw [hx]; simp, hJ3, hB.trans hk3⟩
            case measure => have := land_lt h0; simp [intOf]; omega
          · gi_wp2
            refine bodyPost_ret (results_none rfl _ _ _) rfl ?_
            exact ⟨⟨_, rfl⟩, .inr ⟨pre ++ [⟨64 * k + c, by omega⟩], ⟨bitsOf 64 (64 * k) (x &&& (x - 1)) ++ allBits (k + 1) (ws.drop (k + 1)), by rw [hAB, hx]; simp⟩, hJx3⟩⟩
    · obtain rfl : k = 16 := by omega
      have hd : ws.drop 16 = [] := List.drop_eq_nil_of_le (by rw [hW.1]; exact Nat.le_refl _)
      rw [hd] at hx
      gi_wp2
      go_end0
      exact ⟨⟨_, rfl⟩, .inl ⟨pre, by rw [hx]; simp [allBits], hJs⟩⟩
end Go.Proofs.YtjhlodbhchdkbaaGreatDoor

/-
  A row of one's own, one cell of it stored; a set's ranges, step by step.
-/
namespace Go.Proofs.YtjhlodbhchdkbaaGreatDoor
open Go Go.RowKit Go.Ev

theorem ownsRow_put {W : World} {base : Nat} {e : TypeId} {size g k cap : Nat} {xs : List Value} (h : W.ownsRow base e size (.slice (some ⟨g, 0, none⟩) k cap) k xs) (j : Nat) (u : Value) :
    (W.setCell ⟨g, j, none⟩ u).ownsRow base e size (.slice (some ⟨g, 0, none⟩) k cap) k (xs.set j u) := by
  obtain ⟨h1, h2⟩ := h
  refine ⟨by simpa using h1, ?_⟩
  rcases h2 with ⟨hv, _⟩ | ⟨g', cap', cur, hv, hb, hg, hc, hm, hs, ht⟩
  · cases hv
  · cases hv
    refine .inr ⟨g, cap, cur.setIfInBounds j u, rfl, hb, ?_, hc, hm, by simpa using hs, ?_⟩
    · obtain ⟨hlt, hk⟩ := Array.getElem?_eq_some_iff.1 hg
      show (W.heap.modify g _)[g]? = _
      rw [Array.getElem?_eq_getElem (by rw [Array.size_modify]; exact hlt), Array.getElem_modify_self, hk]
      rfl
    · rw [Array.toList_setIfInBounds, ← ht, List.take_set]
theorem ownsRow_cell {W : World} {base : Nat} {e : TypeId} {size g k cap : Nat} {xs : List Value} (h : W.ownsRow base e size (.slice (some ⟨g, 0, none⟩) k cap) k xs) {j : Nat} (hj : j < xs.length) : W.cell? ⟨g, j, none⟩ = some xs[j] ∧ (∀ o, W.frozen? ⟨g, o, none⟩ = false) ∧ base ≤ g ∧ k ≤ cap := by
  obtain ⟨h1, h2⟩ := h
  rcases h2 with ⟨hv, _⟩ | ⟨g', cap', cur, hv, hb, hg, hc, hm, hs, ht⟩
  · cases hv
  · cases hv
    subst ht
    refine ⟨?_, fun o => by simp [World.frozen?, hg], hb, hc⟩
    simp at hj
    simp [World.cell?, hg]
def addTo (l : List Nat) : List (Nat × Nat) := l.foldl addNum []
theorem addTo_snoc (l : List Nat) (v : Nat) : addTo (l ++ [v]) = addNum (addTo l) v := by simp [addTo]
theorem rangesOf_eq (l : List Nat) : rangesOf l = (addTo l).reverse := rfl
theorem addNum_nil (v : Nat) : addNum [] v = [(v, v)] := rfl
theorem addNum_in {a b v : Nat} {r : List (Nat × Nat)} (h : b + 1 = v) : addNum ((a, b) :: r) v = (a, v) :: r := by
  unfold addNum; subst h; simp
theorem addNum_new {a b v : Nat} {r : List (Nat × Nat)} (h : b + 1 ≠ v) : addNum ((a, b) :: r) v = (v, v) :: (a, b) :: r := by
  have : Nat.beq (b + 1) v = false := by cases e : Nat.beq (b + 1) v with | false => rfl | true => exact absurd (Nat.eq_of_beq_eq_true e) h
  simp only [addNum, this, Bool.false_eq_true, if_false]
theorem cells_last (a b : Nat) (r : List (Nat × Nat)) : pairCells ((a, b) :: r).reverse = pairCells r.reverse ++ [.int .i64 a, .int .i64 b] := by
  rw [List.reverse_cons, pairCells_append]; rfl
theorem cells_at (a b : Nat) (r : List (Nat × Nat)) : (pairCells ((a, b) :: r).reverse)[r.length * 2 + 1]? = some (.int .i64 b) := by
  rw [cells_last, List.getElem?_append_right (by simp [pairCells_len])]
  simp [pairCells_len]
theorem cells_set (a b v : Nat) (r : List (Nat × Nat)) : (pairCells ((a, b) :: r).reverse).set (r.length * 2 + 1) (.int .i64 v) = pairCells ((a, v) :: r).reverse := by
  rw [cells_last, cells_last, List.set_append_right _ _ (by simp [pairCells_len])]
  simp [pairCells_len]
theorem addTo_len (l : List Nat) : (addTo l).length ≤ l.length := by have := fold_len l []; simpa [addTo] using this
end Go.Proofs.YtjhlodbhchdkbaaGreatDoor

/-
  A set's ranges: what the program makes of sixteen words.
-/
namespace Go.Proofs.YtjhlodbhchdkbaaGreatDoor
open Go Go.RowKit Go.Shelf Go.Ev

attribute [local go_sem] Oper.semAt_some

set_option maxHeartbeats 1000000 in
theorem all_in (n : Nat) (p : Option Addr) (w : World) :
    CallsIn Fence.wide n Tryz.prog 63 #[.pointer p] w fun e w' => e = .returned (.func (.func 88) #[] #[.pointer (some ⟨w.heap.size, 0, none⟩)]) ∧ w' = w.alloc (.cells #[.pointer p] 107) := by
  refine callsIn_of_wp Tryz.func63 rfl trivial ?_ rfl
  simp only [Tryz.ntmps63, List.size_toArray, List.length_cons, List.length_nil, Nat.reduceAdd, Nat.reduceSub, Array.replicate_succ, Array.replicate_zero, List.push_toArray, List.append_toArray, List.nil_append, List.cons_append]
  gi_wp2
  go_ret
  exact ⟨rfl, rfl⟩
theorem drewN_grown (W : World) (k : Nat) : W.grownBy (W.drewN k) none := ⟨rfl, rfl, rfl, Nat.le_refl _, fun _ _ _ => rfl⟩
theorem all_stops (n : Nat) (hn : 2 ≤ n) (Bn n₀ sb so : Nat) (ws : List Nat) (w : World) (hBn : Bn < w.heap.size) (hn₀ : n₀ ≤ w.heap.size) (hgn : 4 < n₀) (hsb : sb < n₀)
    (hc : w.cell? ⟨Bn, 0, none⟩ = some (.pointer (some ⟨sb, so, none⟩))) (hW : WordsAt w sb so ws) (hT : TabIn w) :
    SeqStopsK Fence.wide n Tryz.prog 88 #[.pointer (some ⟨Bn, 0, none⟩)] (fun x : Elem => #[Value.int .i64 x.1]) (Below n₀) (fun ys => ys.map Fin.val = allBits 0 ws) (fun pre => pre.map Fin.val <+: allBits 0 ws) (allBits 0 ws).length w := fun l J Jx W hW2 hJ _ hY h0 =>
  all1_in n hn l Bn n₀ sb so ws hgn hsb J Jx hY W ((hW2.cell (p := ⟨Bn, 0, none⟩) hBn).trans hc) (hW.below (hW2.mono hn₀) hsb) (TabIn.below hT hW2 hT.lt) h0
    (fun pre W k h => hJ pre W (W.drewN k) none h (drewN_grown W k) (fun r e => by cases e))

theorem infoP : (Tryz.prog.info? 38).map (fun i => (i.zero, i.size, i.bytes)) = some (some (.agg #[.int .i64 0, .int .i64 0]), 2, 16) := by kernel_rfl

theorem grownBy_setCell_any (W : World) (g o : Nat) (v : Value) : W.grownBy (W.setCell ⟨g, o, none⟩ v) (some g) :=
  ⟨rfl, rfl, rfl, (KeepsWalks.setCell W _ v).size, fun k _ hk => Below.heap_setCell _ _ _ k (fun e => hk (by rw [e]))⟩
def nums (pre : List Elem) : List Nat := pre.map Fin.val
set_option maxRecDepth 100000 in
set_option maxHeartbeats 4000000 in
theorem ranges_in (n : Nat) (hn : 4 ≤ n) (sb so : Nat) (ws : List Nat) (w : World) (hsb : sb < w.heap.size) (hW : WordsAt w sb so ws) (hT : TabIn w) :
    CallsIn Fence.wide n Tryz.prog 42 #[.pointer (some ⟨sb, so, none⟩)] w fun e w' => ∃ v, e = .returned v ∧ w'.ownsRow w.heap.size 38 2 v (addTo (allBits 0 ws)).length (pairCells (addTo (allBits 0 ws)).reverse) ∧ (v = .slice none 0 0 ↔ addTo (allBits 0 ws) = []) ∧ Below w.heap.size w w' := by
  have h1 : 1 ≤ n := by omega
  obtain ⟨i0, hi, hz0, hz1, hz2⟩ := info_parts infoP
  have hab := allBits_len 0 ws
  rw [hW.1] at hab
  refine callsIn_of_wp_marks Tryz.func42 rfl trivial ?_ rfl
  simp only [Tryz.ntmps42, List.size_toArray, List.length_cons, List.length_nil, Nat.reduceAdd, Nat.reduceSub, Array.replicate_succ, Array.replicate_zero, List.push_toArray, List.append_toArray, List.nil_append, List.cons_append]
  gi_wp2_with (refine ⟨trivial, ?_⟩; gi_at_call 63; refine (all_in (n - 1) _ _).mono ?_; rintro e w' ⟨rfl, rfl⟩)
  have bO := Boxed.new w 22 (.slice none 0 0)
  have bN := Boxed.new (w.alloc (.cells #[.slice none 0 0] 22)) 107 (.pointer (some ⟨sb, so, none⟩))
  rw [World.size_alloc] at bN
  have hB0 : Below w.heap.size w ((w.alloc (.cells #[.slice none 0 0] 22)).alloc (.cells #[.pointer (some ⟨sb, so, none⟩)] 107)) := ((Below.refl _ w).alloc (Nat.le_refl _) _).alloc (by simp) _
  refine wpIn_rangeFunc_ownG rfl h1 (gf := 88) (lb := #[.pointer (some ⟨w.heap.size + 1, 0, none⟩)]) rfl trivial (enters_of Tryz.func88 (by kernel_rfl) rfl)
    (all_stops (n - 1) (by omega) (w.heap.size + 1) w.heap.size sb so ws _ (by simp) (by simp; omega) hT.lt hsb bN.cell (hW.below hB0 hsb) (hT.below hB0 hT.lt)) belowK_t (belowK_b (by simp; omega)) (Below.refl _ _) (fun _ => rfl)
    (fun pre W => (∃ v, Boxed W w.heap.size 22 v ∧ W.ownsRow w.heap.size 38 2 v (addTo (nums pre)).length (pairCells (addTo (nums pre)).reverse) ∧ (v = .slice none 0 0 ↔ addTo (nums pre) = [])) ∧ Below w.heap.size w W)
    (fun _ _ _ => False)
    (OwnFrom.and (Own.from (holdsRow_own w.heap.size w.heap.size 22 38 2 (fun pre => (addTo (nums pre)).length) (fun pre => pairCells (addTo (nums pre)).reverse) (fun pre v => v = .slice none 0 0 ↔ addTo (nums pre) = [])) _) (ownFrom_below (Nat.le_refl _) (by simp; omega)))
    (fun _ _ _ _ _ hs _ _ => hs)
    ⟨⟨_, bO.alloc _, World.ownsRow_nil _ _ _ _, by simp [nums, addTo]⟩, hB0⟩
    (fun x => { tmps := #[.pointer (some ⟨sb, so, none⟩), undef, .slice none 0 0, .pointer (some ⟨w.heap.size, 0, none⟩), .int .i64 x.1, undef, .pointer (some ⟨sb, so, none⟩), .func (.func 88) #[] #[.pointer (some ⟨w.heap.size + 1, 0, none⟩)], .int .i64 x.1, undef, undef, undef, undef, undef, undef, undef, undef, undef, undef, undef, undef, undef, undef, undef, undef, undef, undef, undef, undef, undef, undef, undef, undef, undef, undef, undef, undef], defers := [] }) ?assign ?body ?done ?stop
  case assign =>
    intro l x W K hK
    gi_wp2
    exact hK
  case body =>
    rintro l pre ⟨x, hx⟩ W ⟨⟨v, hv, hrow, hnil⟩, hB⟩ hlt
    have hc := hv.cell
    have hlen := addTo_len (nums pre)
    have hpl : (nums pre).length = pre.length := by simp [nums]
    have hns : nums (pre ++ [⟨x, hx⟩]) = nums pre ++ [x] := by simp [nums]
    have hx2 : (x : Int) < 1024 := by omega
    have HN : addTo (nums (pre ++ [⟨x, hx⟩])) = addNum (addTo (nums pre)) x := by rw [hns, addTo_snoc]
    obtain ⟨Q, hQ⟩ : ∃ Q, addTo (nums pre) = Q := ⟨_, rfl⟩
    rw [hQ] at hrow hnil hlen HN
    have HH := Lib.hid HN
    clear hQ hns HN
    match Q, hrow, hnil, hlen with
    | [], hrow, hnil, hlen =>
      obtain rfl := hnil.2 rfl
      iterate 56 (gi_step)
      repeat ((fail_if_success gi_at_builtin); gi_step)
      gi_at_builtin
      refine wpListIn_append_own _ rfl _ _ 22 rfl w.heap.size 38 i0 (.agg #[.int .i64 0, .int .i64 0]) 2 16 Tryz.underlying22 hi hz0 hz1 hz2 rfl (by decide) _ _ _ rfl (hrow.alloc _) ⟨W.heap.size, 0, none⟩ 1 1 [.int .i64 x, .int .i64 x] rfl rfl ?c1 ?c2 (by simp [maxLen]) (by simp) (by have := hB.size; simp; omega) ?_
      case c1 =>
        intro j z hj
        match j, hj with
        | 0, hj => simp at hj; subst hj; simp [Addr.add]
        | 1, hj => simp at hj; subst hj; simp [Addr.add]
      case c2 => intro z hz; simp at hz; subst hz; rfl
      intro v' w1 hown' hgrow _
      obtain ⟨g', cap', rfl⟩ := ownsRow_succ hown'
      obtain ⟨hv1, hv2, hr2, hk2, hb2⟩ := hv.appended (by decide) hrow hB.size (Nat.le_refl _) hown' hgrow
      have hc1 := hv1.cell
      have hf1 := hv1.frozen
      gi_wp2
      exact ⟨hk2.from _, hb2, ⟨_, hv2, by rw [HH.out, addNum_nil]; exact hr2, by rw [HH.out, addNum_nil]; simp⟩, hB.trans hb2⟩
    | (a, b) :: r, hrow, hnil, hlen =>
      obtain ⟨g, cap, rfl⟩ := ownsRow_succ hrow
      have hcl := cells_at a b r
      have hset := cells_set a b x r
      have hln : (pairCells ((a, b) :: r).reverse).length = (r.length + 1) * 2 := by rw [pairCells_len, List.length_reverse]; rfl
      obtain ⟨hjl, hje⟩ := List.getElem?_eq_some_iff.1 hcl
      obtain ⟨hcc, hff, hbg, hkc⟩ := ownsRow_cell hrow hjl
      rw [hje] at hcc
      have hlen2 : r.length + 1 ≤ pre.length := by rw [← hpl]; exact hlen
      have HR2 := Lib.hid (show W.ownsRow w.heap.size 38 2 (.slice (some ⟨g, 0, none⟩) (r.length + 1) cap) (r.length + 1) (pairCells ((a, b) :: r).reverse) from hrow)
      have HS := Lib.hid hset
      clear hrow hset hcl hje hjl hln hnil
      obtain ⟨q, hq'⟩ : ∃ q, r.length = q := ⟨_, rfl⟩
      have hq := Lib.hid hq'
      rw [hq'] at HR2 HS hv hc hcc hkc hlen2
      clear hq'
      have y1 : (0 : Int) < (q : Int) + 1 := by omega
      have y2 : (q : Int) + 1 - 1 = q := by omega
      have y3 : (0 : Int) ≤ (q : Int) := by omega
      have y4 : (q : Int) < (q : Int) + 1 := by omega
      by_cases hin : b + 1 = x
      · have z1 : ((b : Int) == (x : Int) - 1) = true := by simp; omega
        gi_wp2
        have hbx : Boxed (W.setCell ⟨g, q * 2 + 1, none⟩ (.int .i64 x)) w.heap.size 22 (.slice (some ⟨g, 0, none⟩) (q + 1) cap) := hv.kept (grownBy_setCell_any W g _ _) (hv.not_row (by decide) HR2.out)
        have hrw := ownsRow_put HR2.out (q * 2 + 1) (.int .i64 x)
        rw [HS.out] at hrw
        exact ⟨(KeepsOthers.setCell _ _ _).from _, (Below.refl _ W).setCell (p := ⟨g, q * 2 + 1, none⟩) hbg _, ⟨_, hbx, by rw [HH.out, addNum_in hin]; simpa [hq.out] using hrw, by rw [HH.out, addNum_in hin]; simp⟩, hB.setCell (p := ⟨g, q * 2 + 1, none⟩) hbg _⟩
      · have z1 : ((b : Int) == (x : Int) - 1) = false := by simp; omega
        repeat ((fail_if_success gi_at_builtin); gi_step)
        gi_at_builtin
        refine wpListIn_append_own _ rfl _ _ 22 rfl w.heap.size 38 i0 (.agg #[.int .i64 0, .int .i64 0]) 2 16 Tryz.underlying22 hi hz0 hz1 hz2 rfl (by decide) _ _ _ rfl (HR2.out.alloc _) ⟨W.heap.size, 0, none⟩ 1 1 [.int .i64 x, .int .i64 x] rfl rfl ?c1 ?c2 (by unfold maxLen; omega) (by omega) (by have := hB.size; simp; omega) ?_
        case c1 =>
          intro j z hj
          match j, hj with
          | 0, hj => simp at hj; subst hj; simp [Addr.add]
          | 1, hj => simp at hj; subst hj; simp [Addr.add]
        case c2 => intro z hz; simp at hz; subst hz; rfl
        intro v' w1 hown' hgrow _
        obtain ⟨g', cap', rfl⟩ := ownsRow_succ hown'
        obtain ⟨hv1, hv2, hr2, hk2, hb2⟩ := hv.appended (by decide) HR2.out hB.size (Nat.le_refl _) hown' hgrow
        have hc1 := hv1.cell
        have hf1 := hv1.frozen
        gi_wp2
        exact ⟨hk2.from _, hb2, ⟨_, hv2, by rw [HH.out, addNum_new hin, cells_last]; simpa [hq.out] using hr2, by rw [HH.out, addNum_new hin]; simp⟩, hB.trans hb2⟩
  case done =>
    rintro D ys W hD hys ⟨⟨v, hv, hrow, hnil⟩, hB⟩ hK
    have hc := hv.cell
    rw [show nums ys = allBits 0 ws from hys] at hrow hnil
    gi_wp2
    refine ⟨by simp, .inl ⟨_, _, rfl, run_takeDeferred hK, ?_⟩⟩
    exact ⟨_, results_tmp rfl _ _ _, v, rfl, ownsRow_putObj hrow _ hK rfl, hnil, hB.trans (belowK_b (w := w) (Nat.le_refl _) W D _ _ (by simp at hD; omega) hK rfl rfl)⟩
  case stop =>
    rintro D c pre W _ _ h _
    exact h.elim
end Go.Proofs.YtjhlodbhchdkbaaGreatDoor

