/-
  A family out of its bounds: what the program hands out.
-/
import Derived.Deep.RegionHeld
import Derived.Test.YtcbjkclajkjicaaGreatDoorFrC
namespace Go.Proofs.YtcbjkclajkjicaaGreatDoor
set_option linter.unusedSimpArgs false
open Go Go.RowKit Go.Shelf Go.Ev

/-- a list of a set's elements, as it lies -/
def BitRow (W : World) (base : Nat) (v : Value) (x : Nat) : Prop := (∃ G cap, v = .slice G (bitsOf 64 0 x).length cap) ∧ W.ownsRow base 3 1 v (bitsOf 64 0 x).length (natCells (bitsOf 64 0 x))
theorem ownsRow_below {W W' : World} {base base' : Nat} {e : TypeId} {size k : Nat} {v : Value} {xs : List Value} (h : W.ownsRow base e size v k xs) (hb : ∀ b, v.ownBlock = some b → W'.heap[b]? = W.heap[b]?) (hz : base' ≤ base) : W'.ownsRow base' e size v k xs := by
  refine ⟨h.1, ?_⟩
  rcases h.2 with h0 | ⟨g, c, cur, hv, h1, h2, h3⟩
  · exact Or.inl h0
  · exact Or.inr ⟨g, c, cur, hv, Nat.le_trans hz h1, (hb g (by rw [hv]; rfl)).trans h2, h3⟩
theorem BitRow.past {W W' : World} {base base' : Nat} {v : Value} {x : Nat} (h : BitRow W base v x) (hb : ∀ b, v.ownBlock = some b → W'.heap[b]? = W.heap[b]?) (hz : base' ≤ base) : BitRow W' base' v x := ⟨h.1, ownsRow_below h.2 hb hz⟩
theorem BitRow.lt {W : World} {base : Nat} {v : Value} {x b : Nat} (h : BitRow W base v x) (hb : v.ownBlock = some b) : base ≤ b ∧ b < W.heap.size := by
  have := h.2.lt b hb
  exact ⟨this.1, this.2⟩
def famCells (W : World) (B : Nat) : Prop := W.heap[B]? = some (.cells #[.slice none 0 0, .slice none 0 0, .int .i64 0, .int .i64 0] 24 (0, 0))
set_option maxRecDepth 100000 in
set_option maxHeartbeats 8000000 in
theorem family_any (lo hi : Nat) (mn mx : Int) (w : World) (hlo : lo < 18446744073709551616) (hhi : hi < 18446744073709551616) (hT : TabIn w) :
    Calls Tryz.prog 29 #[.agg #[.int .u64 lo, .int .u64 hi, .int .i64 mn, .int .i64 mx]] w fun e w' => ∃ v1 v2, e = .returned (.agg #[v1, v2, .int .i64 mn, .int .i64 mx]) ∧ BitRow w' w.heap.size v1 lo ∧ BitRow w' w.heap.size v2 hi ∧ (∀ b, v1.ownBlock = some b → v2.ownBlock ≠ some b) ∧ Below w.heap.size w w' := by
  have hw0 := hT.lt
  go_enter Tryz.func29, Tryz.ntmps29
  go_wp2_with fail
  generalize hW1 : (w.alloc (.cells #[.int .u64 lo, .int .u64 hi, .int .i64 mn, .int .i64 mx] 58)).alloc (.cells #[.slice none 0 0, .slice none 0 0, .int .i64 0, .int .i64 0] 24) = W1
  have HB1 := Lib.hid (show Below w.heap.size w W1 by rw [← hW1]; exact ((Below.refl _ w).alloc (Nat.le_refl _) _).alloc (by simp) _)
  have hs1 : W1.heap.size = w.heap.size + 2 := by rw [← hW1]; simp
  have hc1 : W1.heap[w.heap.size]? = some (.cells #[.int .u64 lo, .int .u64 hi, .int .i64 mn, .int .i64 mx] 58 (0, 0)) := by rw [← hW1]; exact heap_alloc2_old _ _ _
  have hf1 : famCells W1 (w.heap.size + 1) := by rw [← hW1]; exact heap_alloc2_new _ _ _
  have MK : ∀ wx, wx.heap[w.heap.size]? = W1.heap[w.heap.size]? → (fun (wx : World) => wx.cell? ⟨w.heap.size, 0, none⟩ = some (.int .u64 lo) ∧ wx.cell? ⟨w.heap.size, 1, none⟩ = some (.int .u64 hi) ∧ wx.cell? ⟨w.heap.size, 2, none⟩ = some (.int .i64 mn) ∧ wx.cell? ⟨w.heap.size, 3, none⟩ = some (.int .i64 mx)) wx := fun wx h => by
    rw [hc1] at h
    refine ⟨?_, ?_, ?_, ?_⟩ <;> (simp only [World.cell?, h]; rfl)
  have MKH := Lib.hid MK
  have FC := Lib.hid hf1
  have START := Lib.hid (MK W1.drew rfl)
  clear hW1 hc1 MK hf1
  refine wp_region_held_drew (S := fun (wx : World) => wx.cell? ⟨w.heap.size, 0, none⟩ = some (.int .u64 lo) ∧ wx.cell? ⟨w.heap.size, 1, none⟩ = some (.int .u64 hi) ∧ wx.cell? ⟨w.heap.size, 2, none⟩ = some (.int .i64 mn) ∧ wx.cell? ⟨w.heap.size, 3, none⟩ = some (.int .i64 mx)) (by kernel_rfl) START.out (fun hHeld => ?_)
  clear START
  refine wpAnyH_take (i := 0) (oi := { dst := some 3, op := Op.fieldAddr 58 (Operand.tmp 1) 0, type := 0, pos := "bounds.go:48", after := #[], guard := none }) (v := ?vn1k0) rfl (by kernel_rfl) (by kernel_rfl) (by kernel_rfl) (fun _ _ _ h => h) (Or.inl ⟨by kernel_rfl, ?yn1k0⟩) (by assumption) ?rn1k0
  case yn1k0 => intro w hSw; (try dsimp only at hSw); go_simp; try with_reducible rfl
  try simp only [Act.put, List.setIfInBounds_toArray, List.set_cons_zero, List.set_cons_succ]
  refine wpAnyH_take (i := 1) (oi := { dst := some 4, op := Op.load 56 (Operand.tmp 3), type := 56, pos := "bounds.go:48", after := #[{ on := 0, ground := Ground.data }], guard := none }) (v := ?vn2k1) rfl (by kernel_rfl) (by kernel_rfl) (by kernel_rfl) (fun _ _ _ h => h) (Or.inl ⟨by kernel_rfl, ?yn2k1⟩) (by assumption) ?rn2k1
  case yn2k1 => intro w hSw; (try dsimp only at hSw); go_simp; try with_reducible rfl
  try simp only [Act.put, List.setIfInBounds_toArray, List.set_cons_zero, List.set_cons_succ]
  refine wpAnyH_take (i := 4) (oi := { dst := some 7, op := Op.fieldAddr 58 (Operand.tmp 1) 1, type := 0, pos := "bounds.go:48", after := #[], guard := none }) (v := ?vn3k4) rfl (by kernel_rfl) (by kernel_rfl) (by kernel_rfl) (fun _ _ _ h => h) (Or.inl ⟨by kernel_rfl, ?yn3k4⟩) (by assumption) ?rn3k4
  case yn3k4 => intro w hSw; (try dsimp only at hSw); go_simp; try with_reducible rfl
  try simp only [Act.put, List.setIfInBounds_toArray, List.set_cons_zero, List.set_cons_succ]
  refine wpAnyH_take (i := 5) (oi := { dst := some 8, op := Op.load 56 (Operand.tmp 7), type := 56, pos := "bounds.go:48", after := #[{ on := 4, ground := Ground.data }], guard := none }) (v := ?vn4k5) rfl (by kernel_rfl) (by kernel_rfl) (by kernel_rfl) (fun _ _ _ h => h) (Or.inl ⟨by kernel_rfl, ?yn4k5⟩) (by assumption) ?rn4k5
  case yn4k5 => intro w hSw; (try dsimp only at hSw); go_simp; try with_reducible rfl
  try simp only [Act.put, List.setIfInBounds_toArray, List.set_cons_zero, List.set_cons_succ]
  refine wpAnyH_take (i := 8) (oi := { dst := some 11, op := Op.fieldAddr 58 (Operand.tmp 1) 2, type := 0, pos := "bounds.go:48", after := #[], guard := none }) (v := ?vn5k8) rfl (by kernel_rfl) (by kernel_rfl) (by kernel_rfl) (fun _ _ _ h => h) (Or.inl ⟨by kernel_rfl, ?yn5k8⟩) (by assumption) ?rn5k8
  case yn5k8 => intro w hSw; (try dsimp only at hSw); go_simp; try with_reducible rfl
  try simp only [Act.put, List.setIfInBounds_toArray, List.set_cons_zero, List.set_cons_succ]
  refine wpAnyH_take (i := 9) (oi := { dst := some 12, op := Op.load 3 (Operand.tmp 11), type := 3, pos := "bounds.go:48", after := #[{ on := 8, ground := Ground.data }], guard := none }) (v := ?vn6k9) rfl (by kernel_rfl) (by kernel_rfl) (by kernel_rfl) (fun _ _ _ h => h) (Or.inl ⟨by kernel_rfl, ?yn6k9⟩) (by assumption) ?rn6k9
  case yn6k9 => intro w hSw; (try dsimp only at hSw); go_simp; try with_reducible rfl
  try simp only [Act.put, List.setIfInBounds_toArray, List.set_cons_zero, List.set_cons_succ]
  refine wpAnyH_take (i := 10) (oi := { dst := some 13, op := Op.fieldAddr 58 (Operand.tmp 1) 3, type := 0, pos := "bounds.go:48", after := #[], guard := none }) (v := ?vn7k10) rfl (by kernel_rfl) (by kernel_rfl) (by kernel_rfl) (fun _ _ _ h => h) (Or.inl ⟨by kernel_rfl, ?yn7k10⟩) (by assumption) ?rn7k10
  case yn7k10 => intro w hSw; (try dsimp only at hSw); go_simp; try with_reducible rfl
  try simp only [Act.put, List.setIfInBounds_toArray, List.set_cons_zero, List.set_cons_succ]
  refine wpAnyH_take (i := 11) (oi := { dst := some 14, op := Op.load 3 (Operand.tmp 13), type := 3, pos := "bounds.go:48", after := #[{ on := 10, ground := Ground.data }], guard := none }) (v := ?vn8k11) rfl (by kernel_rfl) (by kernel_rfl) (by kernel_rfl) (fun _ _ _ h => h) (Or.inl ⟨by kernel_rfl, ?yn8k11⟩) (by assumption) ?rn8k11
  case yn8k11 => intro w hSw; (try dsimp only at hSw); go_simp; try with_reducible rfl
  try simp only [Act.put, List.setIfInBounds_toArray, List.set_cons_zero, List.set_cons_succ]
  refine wpAnyH_ready (rs := [2]) (by kernel_rfl) (by simp) (AllReadyH.cons (o := { dst := some 5, op := Op.call { callee := Callee.value (Operand.func 54), args := #[Operand.tmp 4], argTypes := #[56] }, type := 90, pos := "bounds.go:48", after := #[{ on := 1, ground := Ground.data }], guard := none }) rfl (fun K hK => ?_) AllReadyH.nil)
  go_simp
  refine (fall_any lo W1.drew).mono ?_
  rintro e W2 ⟨B1, rfl, hw1, hb1, hl1, hk1⟩
  have HS2 := MKH.out W2 (hk1.block _ (by show w.heap.size < W1.heap.size; omega))
  have HK2 := Lib.hid (show Below W1.heap.size W1 W2 from ⟨hk1.os, hk1.tape, hk1.output, hk1.size, hk1.block⟩)
  have HW2 := Lib.hid hw1
  have hb1' : W1.heap.size ≤ B1 := hb1
  clear hk1 hw1 hb1
  clear hHeld
  refine hK.out _ _ (by assumption) (fun hHeld => ?_)
  clear hK K
  try simp only [Act.put, List.setIfInBounds_toArray, List.set_cons_zero, List.set_cons_succ]
  refine wpAnyH_ready (rs := [3]) (by kernel_rfl) (by simp) (AllReadyH.cons (o := { dst := some 6, op := Op.call { callee := Callee.value (Operand.func 53), args := #[Operand.tmp 5], argTypes := #[90] }, type := 22, pos := "bounds.go:48", after := #[{ on := 2, ground := Ground.data }, { on := 2, ground := Ground.chain }], guard := none }) rfl (fun K hK => ?_) AllReadyH.nil)
  go_simp
  refine (fcollect_any B1 lo W2 (by omega) hl1 hlo HW2.out ((hT.below HB1.out hw0).below HK2.out (by omega))).mono ?_
  rintro e W3 ⟨G1, k1, rfl, ho, hk⟩
  have HS3 := MKH.out W3 ((hk.2 _ (by have := HK2.out.size; omega) (by omega)).trans (HK2.out.block _ (by omega)))
  have HK3 := Lib.hid (show Below W1.heap.size W1 W3 from HK2.out.trans (hk.1.mono hb1'))
  have HR3 := Lib.hid ho
  have s23 := hk.1.size
  clear hk ho HW2
  clear hHeld
  refine hK.out _ _ (by assumption) (fun hHeld => ?_)
  clear hK K
  try simp only [Act.put, List.setIfInBounds_toArray, List.set_cons_zero, List.set_cons_succ]
  refine wpAnyH_ready (rs := [6]) (by kernel_rfl) (by simp) (AllReadyH.cons (o := { dst := some 9, op := Op.call { callee := Callee.value (Operand.func 54), args := #[Operand.tmp 8], argTypes := #[56] }, type := 90, pos := "bounds.go:48", after := #[{ on := 5, ground := Ground.data }, { on := 3, ground := Ground.chain }], guard := none }) rfl (fun K hK => ?_) AllReadyH.nil)
  go_simp
  refine (fall_any hi W3).mono ?_
  rintro e W4 ⟨B2, rfl, hw1, hb2, hl2, hk1⟩
  have HS4 := MKH.out W4 ((hk1.block _ (by have := HK3.out.size; omega)).trans (HK3.out.block _ (by omega)))
  have HK4 := Lib.hid (show Below W1.heap.size W1 W4 from HK3.out.trans (hk1.mono HK3.out.size))
  have HW4 := Lib.hid hw1
  have HR4 := Lib.hid (ownsRow_below HR3.out (fun b hb => hk1.block b (HR3.out.lt b hb).2) (Nat.le_refl _))
  have hlt1 := Lib.hid (fun b (hb : Value.ownBlock (.slice G1 (bitsOf 64 0 lo).length k1) = some b) => (HR3.out.lt b hb).2)
  have s34 := hk1.size
  clear hk1 hw1 HR3
  clear hHeld
  refine hK.out _ _ (by assumption) (fun hHeld => ?_)
  clear hK K
  try simp only [Act.put, List.setIfInBounds_toArray, List.set_cons_zero, List.set_cons_succ]
  refine wpAnyH_ready (rs := [7]) (by kernel_rfl) (by simp) (AllReadyH.cons (o := { dst := some 10, op := Op.call { callee := Callee.value (Operand.func 53), args := #[Operand.tmp 9], argTypes := #[90] }, type := 22, pos := "bounds.go:48", after := #[{ on := 6, ground := Ground.data }, { on := 6, ground := Ground.chain }], guard := none }) rfl (fun K hK => ?_) AllReadyH.nil)
  go_simp
  refine (fcollect_any B2 hi W4 (by omega) hl2 hhi HW4.out ((hT.below HB1.out hw0).below HK4.out (by omega))).mono ?_
  rintro e W5 ⟨G2, k2, rfl, ho, hk⟩
  have HS5 := MKH.out W5 ((hk.2 _ (by have := HK4.out.size; omega) (by have := HK3.out.size; omega)).trans (HK4.out.block _ (by omega)))
  have HK5 := Lib.hid (show Below W1.heap.size W1 W5 from HK4.out.trans (hk.1.mono (by have := HK3.out.size; omega)))
  have HR5 := Lib.hid (ownsRow_below (base' := W1.heap.size) HR4.out (fun b hb => hk.2 b (by have := hlt1.out b hb; omega) (by have := hlt1.out b hb; omega)) (by have := HK2.out.size; omega))
  have HR6 := Lib.hid ho
  have s45 := hk.1.size
  clear hk ho HR4 HW4
  clear hHeld
  refine hK.out _ _ (by assumption) (fun hHeld => ?_)
  clear hK K
  try simp only [Act.put, List.setIfInBounds_toArray, List.set_cons_zero, List.set_cons_succ]
  refine wpAnyH_take (i := 12) (oi := { dst := some 15, op := Op.build 24 #[(0, Operand.tmp 6), (1, Operand.tmp 10), (2, Operand.tmp 12), (3, Operand.tmp 14)], type := 24, pos := "bounds.go:48", after := #[{ on := 3, ground := Ground.data }, { on := 7, ground := Ground.data }, { on := 9, ground := Ground.data }, { on := 11, ground := Ground.data }], guard := none }) (v := ?vn9k12) rfl (by kernel_rfl) (by kernel_rfl) (by kernel_rfl) (fun _ _ _ h => h) (Or.inl ⟨by kernel_rfl, ?yn9k12⟩) (by assumption) ?rn9k12
  case yn9k12 => intro w hSw; (try dsimp only at hSw); go_simp; try with_reducible rfl
  try simp only [Act.put, List.setIfInBounds_toArray, List.set_cons_zero, List.set_cons_succ]
  have HZ := Lib.hid (show famCells W5 (w.heap.size + 1) from (HK5.out.block _ (by omega)).trans FC.out)
  have c0 : W5.cell? ⟨w.heap.size + 1, 0, none⟩ = some (.slice none 0 0) := by simp only [World.cell?, show W5.heap[w.heap.size + 1]? = _ from HZ.out]; rfl
  have c1 : W5.cell? ⟨w.heap.size + 1, 1, none⟩ = some (.slice none 0 0) := by simp only [World.cell?, show W5.heap[w.heap.size + 1]? = _ from HZ.out]; rfl
  have c2 : W5.cell? ⟨w.heap.size + 1, 2, none⟩ = some (.int .i64 0) := by simp only [World.cell?, show W5.heap[w.heap.size + 1]? = _ from HZ.out]; rfl
  have c3 : W5.cell? ⟨w.heap.size + 1, 3, none⟩ = some (.int .i64 0) := by simp only [World.cell?, show W5.heap[w.heap.size + 1]? = _ from HZ.out]; rfl
  have f0 : ∀ o, W5.frozen? ⟨w.heap.size + 1, o, none⟩ = false := fun o => by simp [World.frozen?, show W5.heap[w.heap.size + 1]? = _ from HZ.out]
  clear HS2 HS3 HS4 HS5
  refine wpAnyH_ready (rs := [13]) (by kernel_rfl) (by simp) (AllReadyH.cons (o := { dst := none, op := Op.store 24 (Operand.tmp 2) (Operand.tmp 15), type := 0, pos := "bounds.go:48", after := #[{ on := 12, ground := Ground.data }, { on := 7, ground := Ground.chain }, { on := 0, ground := Ground.phase }, { on := 1, ground := Ground.phase }, { on := 2, ground := Ground.phase }, { on := 3, ground := Ground.phase }, { on := 4, ground := Ground.phase }, { on := 5, ground := Ground.phase }, { on := 6, ground := Ground.phase }, { on := 7, ground := Ground.phase }, { on := 8, ground := Ground.phase }, { on := 9, ground := Ground.phase }, { on := 10, ground := Ground.phase }, { on := 11, ground := Ground.phase }, { on := 12, ground := Ground.phase }], guard := none }) rfl (fun K hK => ?_) AllReadyH.nil)
  go_simp
  have hz0 := heap_setCell_same _ (w.heap.size + 1) 0 _ _ (.slice G1 (bitsOf 64 0 lo).length k1) HZ.out
  have hz1 := heap_setCell_same _ (w.heap.size + 1) 1 _ _ (.slice G2 (bitsOf 64 0 hi).length k2) hz0
  have hz2 := heap_setCell_same _ (w.heap.size + 1) 2 _ _ (.int .i64 mn) hz1
  have hz3 := heap_setCell_same _ (w.heap.size + 1) 3 _ _ (.int .i64 mx) hz2
  have bz : Below (w.heap.size + 1) W5 ((((W5.setCell ⟨w.heap.size + 1, 0, none⟩ (.slice G1 (bitsOf 64 0 lo).length k1)).setCell ⟨w.heap.size + 1, 1, none⟩ (.slice G2 (bitsOf 64 0 hi).length k2)).setCell ⟨w.heap.size + 1, 2, none⟩ (.int .i64 mn)).setCell ⟨w.heap.size + 1, 3, none⟩ (.int .i64 mx)) :=
    ((((Below.refl _ W5).setCell (p := ⟨w.heap.size + 1, 0, none⟩) (Nat.le_refl _) _).setCell (p := ⟨w.heap.size + 1, 1, none⟩) (Nat.le_refl _) _).setCell (p := ⟨w.heap.size + 1, 2, none⟩) (Nat.le_refl _) _).setCell (p := ⟨w.heap.size + 1, 3, none⟩) (Nat.le_refl _) _
  have oz : ∀ k, k ≠ w.heap.size + 1 → ((((W5.setCell ⟨w.heap.size + 1, 0, none⟩ (.slice G1 (bitsOf 64 0 lo).length k1)).setCell ⟨w.heap.size + 1, 1, none⟩ (.slice G2 (bitsOf 64 0 hi).length k2)).setCell ⟨w.heap.size + 1, 2, none⟩ (.int .i64 mn)).setCell ⟨w.heap.size + 1, 3, none⟩ (.int .i64 mx)).heap[k]? = W5.heap[k]? := fun k hk =>
    (Below.heap_setCell _ _ _ k hk).trans ((Below.heap_setCell _ _ _ k hk).trans ((Below.heap_setCell _ _ _ k hk).trans (Below.heap_setCell _ _ _ k hk)))
  have S6 := MKH.out _ ((bz.block _ (Nat.lt_succ_self _)).trans (HK5.out.block _ (by omega)))
  have hz := Lib.hid hz3
  have BZ := Lib.hid bz
  have OZ := Lib.hid oz
  clear hz0 hz1 hz2 hz3 bz oz c0 c1 c2 c3 f0 hHeld
  generalize ((((W5.setCell ⟨w.heap.size + 1, 0, none⟩ (.slice G1 (bitsOf 64 0 lo).length k1)).setCell ⟨w.heap.size + 1, 1, none⟩ (.slice G2 (bitsOf 64 0 hi).length k2)).setCell ⟨w.heap.size + 1, 2, none⟩ (.int .i64 mn)).setCell ⟨w.heap.size + 1, 3, none⟩ (.int .i64 mx)) = W6 at *
  refine hK.out _ _ S6 (fun _ => ?_)
  clear hK K S6
  refine wpAnyH_done (by kernel_rfl) ?_ _
  go_wp2_with fail
  have hl := HK2.out.size
  refine bodyPost_ret (v := .agg #[.slice G1 (bitsOf 64 0 lo).length k1, .slice G2 (bitsOf 64 0 hi).length k2, .int .i64 mn, .int .i64 mx]) (results_cell_row rfl _ _ (w.heap.size + 1) 24 _ (0, 0) _ rfl hz.out Tryz.underlying24 rfl (by kernel_rfl)) rfl ?_
  refine ⟨_, _, rfl, ⟨⟨_, _, rfl⟩, ownsRow_below HR5.out (fun b hb => OZ.out b ?_) (by omega)⟩, ⟨⟨_, _, rfl⟩, ownsRow_below HR6.out (fun b hb => OZ.out b ?_) (by omega)⟩, fun b h1 h2 => ?_, HB1.out.trans ((HK5.out.mono (by omega)).trans (BZ.out.mono (by omega)))⟩
  · have := (HR5.out.lt b hb).1; omega
  · have := (HR6.out.lt b hb).1; omega
  · have g1 := hlt1.out b h1
    have g2 := (HR6.out.lt b h2).1
    omega
end Go.Proofs.YtcbjkclajkjicaaGreatDoor
