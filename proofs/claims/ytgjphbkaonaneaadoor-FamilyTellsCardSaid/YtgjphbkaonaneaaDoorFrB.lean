/-
  The iterator over a family's set: a word in a variable of its own, taken apart bit by bit.
-/
import Derived.Test.YtgjphbkaonaneaaDoorFrA
import Derived.Test.YtgjphbkaonaneaaDoorGzJ
namespace Go.Proofs.YtgjphbkaonaneaaDoor
open Go Go.RowKit Go.Shelf Go.Ev

attribute [local go_sem] Oper.semAt_some

def ownStep (Bn : Nat) (X Y : World) : Prop := Below Bn X Y ∧ Y.heap.size = X.heap.size ∧ ∀ k, k ≠ Bn → Y.heap[k]? = X.heap[k]?
theorem ownStep.set {Bn : Nat} (X : World) (v : Value) : ownStep Bn X (X.setCell ⟨Bn, 0, none⟩ v) := ⟨(Below.refl _ X).setCell (p := ⟨Bn, 0, none⟩) (Nat.le_refl _) v, by simp, fun k hk => Below.heap_setCell _ _ _ k hk⟩
theorem ownStep.drew {Bn : Nat} (X : World) (k : Nat) : ownStep Bn X (X.drewN k) := ⟨⟨rfl, rfl, rfl, Nat.le_refl _, fun _ _ => rfl⟩, rfl, fun _ _ => rfl⟩
def cellNat (W : World) (b : Nat) : Nat := match W.cell? ⟨b, 0, none⟩ with
  | some (.int _ x) => x.toNat
  | _ => 0
def Word (W : World) (b x : Nat) : Prop := W.heap[b]? = some (.cells #[.int .u64 (x : Nat)] 81 (0, 0))
theorem Word.cell {W : World} {b x : Nat} (h : Word W b x) : W.cell? ⟨b, 0, none⟩ = some (.int .u64 (x : Nat)) := by
  simp only [World.cell?, show W.heap[b]? = _ from h]; rfl
theorem Word.free {W : World} {b x : Nat} (h : Word W b x) : W.frozen? ⟨b, 0, none⟩ = false := by
  simp [World.frozen?, show W.heap[b]? = _ from h]
theorem Word.put {W : World} {b x : Nat} (h : Word W b x) (y : Nat) : Word (W.setCell ⟨b, 0, none⟩ (.int .u64 (y : Nat))) b y := heap_setCell_same _ b 0 _ _ _ h
abbrev Bit := Fin 64
set_option maxRecDepth 100000 in
set_option maxHeartbeats 4000000 in
theorem fall1_goes (n : Nat) (hn : 2 ≤ n) (Bn x0 : Nat) (hB : 0 < Bn) (hx0 : x0 < 18446744073709551616) :
    GoesAll Fence.wide n Tryd.prog 158 #[.pointer (some ⟨Bn, 0, none⟩)] (fun x : Bit => #[Value.int .i64 x.1]) (ownStep Bn) (Below (Bn + 1)) (fun ys => ys.map Fin.val = bitsOf 64 0 x0) (bitsOf 64 0 x0).length (fun W => Word W Bn x0 ∧ TabIn W) := by
  intro l J W ⟨hW, hT⟩ hS hY h0
  have hS := Lib.hid hS
  refine callsIn_of_wp Tryd.func158 rfl trivial ?_ rfl
  simp only [Tryd.ntmps158, List.size_toArray, List.length_cons, List.length_nil, Nat.reduceAdd, Nat.reduceSub, Array.replicate_succ, Array.replicate_zero, List.push_toArray, List.append_toArray, List.nil_append, List.cons_append]
  generalize hAB : bitsOf 64 0 x0 = AB at *
  gi_wp2
  gi_loopw [] (fun wr => ∃ (pre : List Bit) (x : Nat), x < 18446744073709551616 ∧ Word wr Bn x ∧ AB = pre.map Fin.val ++ bitsOf 64 0 x ∧ J pre wr ∧ TabIn wr)
    (fun wr => cellNat wr Bn)
  case atStart => exact ⟨[], x0, hx0, hW, by rw [hAB]; rfl, h0, hT⟩
  case round =>
    obtain ⟨pre, x, hxl, hw, hx, hJs, hTs⟩ := hrel
    have hc := hw.cell
    by_cases h0 : x = 0
    · subst h0
      gi_wp2
      go_end0
      rw [bitsOf_zero, List.append_nil] at hx
      exact ⟨⟨_, rfl⟩, pre, hx.symm, hJs⟩
    · have hb := bits_step (i := 0) h0 hxl
      have hcl := ctz_lt h0 hxl
      rw [hb] at hx
      have TT := fun w (h : TabIn w) => callsIn_wide (n := n - 1).2 (tz_any x hxl w h)
      generalize Lib.ctz 64 x = c at *
      have hlen : pre.length < AB.length := by rw [hx]; simp
      obtain ⟨fn, tmps, assign, body, hy, hR⟩ := hY pre ⟨c, hcl⟩ wr hJs hlen
      have hneq : ((x : Int) != 0) = true := by simpa using h0
      dsimp only at hy
      have w1 : IntKind.u64.wrap ((x : Int) - 1) = ((x - 1 : Nat) : Int) := by rw [IntKind.wrap_u64]; omega
      have w2 := bits_and_u64_nat x (x - 1) hxl (by omega)
      gi_wp2_with (refine ⟨trivial, fun _ => by omega, ?_⟩; gi_at_call 100; refine (TT _ hTs).mono ?_; rintro e w' ⟨rfl, rfl⟩)
      refine ⟨fun _ => by omega, hR.mono ?_⟩
      rintro e W3 ⟨rfl, hJ3, hk3⟩
      have hw3 : Word W3 Bn x := (hk3.block Bn (Nat.lt_succ_self _)).trans hw
      have hc3 := hw3.cell
      have hf3 := hw3.free
      have HH := Lib.hid (And.intro hJ3 (And.intro hw3 (hTs.below hk3 (Nat.succ_pos _))))
      have HX := Lib.hid hx
      have HC := Lib.hid (show cellNat w' Bn = x by simp only [cellNat, hw.cell, Int.toNat_natCast])
      clear hJ3 hk3 hw3 hw hc hJs hTs hR hy hx
      gi_wp2
      go_roundw
      case rel =>
        obtain ⟨j, hw, ht⟩ := HH.out
        exact ⟨pre ++ [⟨c, hcl⟩], x &&& (x - 1), Nat.lt_of_le_of_lt Nat.and_le_left hxl, hw.put _, by rw [HX.out]; simp, hS.out _ _ _ j (ownStep.set _ _), ht.below (ownStep.set _ _).1 hB⟩
      case measure =>
        obtain ⟨j, hw, ht⟩ := HH.out
        have := land_lt h0
        rw [HC.out]
        simp only [cellNat, (hw.put _).cell, Int.toNat_natCast]
        exact this
end Go.Proofs.YtgjphbkaonaneaaDoor
