/-
  A family handed out: the document's.
-/
import Derived.Test.YtcbjkclajkjicaaGreatDoorFzZ
namespace Go.Proofs.YtcbjkclajkjicaaGreatDoor
set_option linter.unusedSimpArgs false
open Go Go.RowKit Go.Shelf Go.Ev

theorem fam_put {w : World} {g : Nat} {a b c d : Value} (k : w.heap[g]? = some (.cells #[a, b, c, d] 24 (0, 0))) (l h m x : Value) :
    (((((w.setCell ⟨g, 0, none⟩ l).setCell ⟨g, 1, none⟩ h).setCell ⟨g, 2, none⟩ m).setCell ⟨g, 3, none⟩ x)).heap[g]? = some (.cells #[l, h, m, x] 24 (0, 0)) ∧
    Only g w ((((w.setCell ⟨g, 0, none⟩ l).setCell ⟨g, 1, none⟩ h).setCell ⟨g, 2, none⟩ m).setCell ⟨g, 3, none⟩ x) := by
  have h0 := heap_setCell_same _ g 0 _ _ l k
  have h1 := heap_setCell_same _ g 1 _ _ h h0
  have h2 := heap_setCell_same _ g 2 _ _ m h1
  have h3 := heap_setCell_same _ g 3 _ _ x h2
  exact ⟨h3, (((Only.set _ _ _).trans (Only.set _ _ _)).trans (Only.set _ _ _)).trans (Only.set _ _ _)⟩
set_option maxRecDepth 100000 in
set_option maxHeartbeats 8000000 in
theorem rout_any (lo hi : Nat) (mn mx : Int) (w : World) (hlo : lo < 18446744073709551616) (hhi : hi < 18446744073709551616) :
    Calls Tryz.prog 35 #[.agg #[.int .u64 lo, .int .u64 hi, .int .i64 mn, .int .i64 mx, .bool false]] w fun e w' => (∃ v, e = .returned v ∧ FamOut w' w.heap.size lo hi mn mx v) ∧ Below w.heap.size w w' := by
  have LA := Lib.hid (fun w1 => rlist_any lo w1 hlo)
  have LB := Lib.hid (fun w1 => rlist_any hi w1 hhi)
  clear hlo hhi
  go_enter Tryz.func35, Tryz.ntmps35
  go_wp2_with fail
  have BA := Lib.hid (show Below w.heap.size w ((w.alloc (.cells #[.int .u64 lo, .int .u64 hi, .int .i64 mn, .int .i64 mx, .bool false] 65)).alloc (.cells #[.slice none 0 0, .slice none 0 0, .int .i64 0, .int .i64 0] 24)) from ((Below.refl _ w).alloc (Nat.le_refl _) _).alloc (by simp) _)
  have BF := Lib.hid (show famCells ((w.alloc (.cells #[.int .u64 lo, .int .u64 hi, .int .i64 mn, .int .i64 mx, .bool false] 65)).alloc (.cells #[.slice none 0 0, .slice none 0 0, .int .i64 0, .int .i64 0] 24)) (w.heap.size + 1) from heap_alloc2_new _ _ _)
  have FA := Lib.hid (show ∀ wx : World, Below (w.heap.size + 2) ((w.alloc (.cells #[.int .u64 lo, .int .u64 hi, .int .i64 mn, .int .i64 mx, .bool false] 65)).alloc (.cells #[.slice none 0 0, .slice none 0 0, .int .i64 0, .int .i64 0] 24)) wx → wx.cell? ⟨w.heap.size, 0, none⟩ = some (.int .u64 lo) ∧ wx.cell? ⟨w.heap.size, 1, none⟩ = some (.int .u64 hi) ∧ wx.cell? ⟨w.heap.size, 2, none⟩ = some (.int .i64 mn) ∧ wx.cell? ⟨w.heap.size, 3, none⟩ = some (.int .i64 mx) from fun wx h => by
    have hh := (h.block w.heap.size (by omega)).trans (heap_alloc2_old w (.cells #[.int .u64 lo, .int .u64 hi, .int .i64 mn, .int .i64 mx, .bool false] 65) _)
    refine ⟨?_, ?_, ?_, ?_⟩ <;> (simp only [World.cell?, hh]; rfl))
  have hz : ((w.alloc (.cells #[.int .u64 lo, .int .u64 hi, .int .i64 mn, .int .i64 mx, .bool false] 65)).alloc (.cells #[.slice none 0 0, .slice none 0 0, .int .i64 0, .int .i64 0] 24)).heap.size = w.heap.size + 2 := by simp
  generalize ((w.alloc (.cells #[.int .u64 lo, .int .u64 hi, .int .i64 mn, .int .i64 mx, .bool false] 65)).alloc (.cells #[.slice none 0 0, .slice none 0 0, .int .i64 0, .int .i64 0] 24)) = W at *
  have S0 : (fun wx : World => wx.cell? ⟨w.heap.size, 0, none⟩ = some (.int .u64 lo) ∧ wx.cell? ⟨w.heap.size, 1, none⟩ = some (.int .u64 hi) ∧ wx.cell? ⟨w.heap.size, 2, none⟩ = some (.int .i64 mn) ∧ wx.cell? ⟨w.heap.size, 3, none⟩ = some (.int .i64 mx)) W.drew := FA.out _ (Below.refl _ W).drew
  refine wp_region_held_drew (S := fun (wx : World) => wx.cell? ⟨w.heap.size, 0, none⟩ = some (.int .u64 lo) ∧ wx.cell? ⟨w.heap.size, 1, none⟩ = some (.int .u64 hi) ∧ wx.cell? ⟨w.heap.size, 2, none⟩ = some (.int .i64 mn) ∧ wx.cell? ⟨w.heap.size, 3, none⟩ = some (.int .i64 mx)) (by kernel_rfl) S0 (fun hHeld => ?_)
  clear S0
  have BV := Lib.hid (show Below (w.heap.size + 2) W W.drew from (Below.refl _ W).drew)
  have hvs : w.heap.size + 2 ≤ W.drew.heap.size := by show _ ≤ W.heap.size; omega
  clear hz
  generalize W.drew = V at *
  refine wpAnyH_take (i := 0) (oi := { dst := some 3, op := Op.fieldAddr 65 (Operand.tmp 1) 0, type := 0, pos := "ref.go:67", after := #[], guard := none }) (v := ?vn1k0) rfl (by kernel_rfl) (by kernel_rfl) (by kernel_rfl) (fun _ _ _ h => h) (Or.inl ⟨by kernel_rfl, ?yn1k0⟩) (by assumption) ?rn1k0
  case yn1k0 => intro w hSw; (try dsimp only at hSw); go_simp; try with_reducible rfl
  try simp only [Act.put, List.setIfInBounds_toArray, List.set_cons_zero, List.set_cons_succ]
  refine wpAnyH_take (i := 1) (oi := { dst := some 4, op := Op.load 52 (Operand.tmp 3), type := 52, pos := "ref.go:67", after := #[{ on := 0, ground := Ground.data }], guard := none }) (v := ?vn2k1) rfl (by kernel_rfl) (by kernel_rfl) (by kernel_rfl) (fun _ _ _ h => h) (Or.inl ⟨by kernel_rfl, ?yn2k1⟩) (by assumption) ?rn2k1
  case yn2k1 => intro w hSw; (try dsimp only at hSw); go_simp; try with_reducible rfl
  try simp only [Act.put, List.setIfInBounds_toArray, List.set_cons_zero, List.set_cons_succ]
  refine wpAnyH_take (i := 3) (oi := { dst := some 6, op := Op.fieldAddr 65 (Operand.tmp 1) 1, type := 0, pos := "ref.go:67", after := #[], guard := none }) (v := ?vn3k3) rfl (by kernel_rfl) (by kernel_rfl) (by kernel_rfl) (fun _ _ _ h => h) (Or.inl ⟨by kernel_rfl, ?yn3k3⟩) (by assumption) ?rn3k3
  case yn3k3 => intro w hSw; (try dsimp only at hSw); go_simp; try with_reducible rfl
  try simp only [Act.put, List.setIfInBounds_toArray, List.set_cons_zero, List.set_cons_succ]
  refine wpAnyH_take (i := 4) (oi := { dst := some 7, op := Op.load 52 (Operand.tmp 6), type := 52, pos := "ref.go:67", after := #[{ on := 3, ground := Ground.data }], guard := none }) (v := ?vn4k4) rfl (by kernel_rfl) (by kernel_rfl) (by kernel_rfl) (fun _ _ _ h => h) (Or.inl ⟨by kernel_rfl, ?yn4k4⟩) (by assumption) ?rn4k4
  case yn4k4 => intro w hSw; (try dsimp only at hSw); go_simp; try with_reducible rfl
  try simp only [Act.put, List.setIfInBounds_toArray, List.set_cons_zero, List.set_cons_succ]
  refine wpAnyH_take (i := 6) (oi := { dst := some 9, op := Op.fieldAddr 65 (Operand.tmp 1) 2, type := 0, pos := "ref.go:67", after := #[], guard := none }) (v := ?vn5k6) rfl (by kernel_rfl) (by kernel_rfl) (by kernel_rfl) (fun _ _ _ h => h) (Or.inl ⟨by kernel_rfl, ?yn5k6⟩) (by assumption) ?rn5k6
  case yn5k6 => intro w hSw; (try dsimp only at hSw); go_simp; try with_reducible rfl
  try simp only [Act.put, List.setIfInBounds_toArray, List.set_cons_zero, List.set_cons_succ]
  refine wpAnyH_take (i := 7) (oi := { dst := some 10, op := Op.load 3 (Operand.tmp 9), type := 3, pos := "ref.go:67", after := #[{ on := 6, ground := Ground.data }], guard := none }) (v := ?vn6k7) rfl (by kernel_rfl) (by kernel_rfl) (by kernel_rfl) (fun _ _ _ h => h) (Or.inl ⟨by kernel_rfl, ?yn6k7⟩) (by assumption) ?rn6k7
  case yn6k7 => intro w hSw; (try dsimp only at hSw); go_simp; try with_reducible rfl
  try simp only [Act.put, List.setIfInBounds_toArray, List.set_cons_zero, List.set_cons_succ]
  refine wpAnyH_take (i := 8) (oi := { dst := some 11, op := Op.fieldAddr 65 (Operand.tmp 1) 3, type := 0, pos := "ref.go:67", after := #[], guard := none }) (v := ?vn7k8) rfl (by kernel_rfl) (by kernel_rfl) (by kernel_rfl) (fun _ _ _ h => h) (Or.inl ⟨by kernel_rfl, ?yn7k8⟩) (by assumption) ?rn7k8
  case yn7k8 => intro w hSw; (try dsimp only at hSw); go_simp; try with_reducible rfl
  try simp only [Act.put, List.setIfInBounds_toArray, List.set_cons_zero, List.set_cons_succ]
  refine wpAnyH_take (i := 9) (oi := { dst := some 12, op := Op.load 3 (Operand.tmp 11), type := 3, pos := "ref.go:67", after := #[{ on := 8, ground := Ground.data }], guard := none }) (v := ?vn8k9) rfl (by kernel_rfl) (by kernel_rfl) (by kernel_rfl) (fun _ _ _ h => h) (Or.inl ⟨by kernel_rfl, ?yn8k9⟩) (by assumption) ?rn8k9
  case yn8k9 => intro w hSw; (try dsimp only at hSw); go_simp; try with_reducible rfl
  try simp only [Act.put, List.setIfInBounds_toArray, List.set_cons_zero, List.set_cons_succ]
  refine wpAnyH_ready (rs := [2]) (by kernel_rfl) (by simp) (AllReadyH.cons (o := { dst := some 5, op := Op.call { callee := Callee.value (Operand.func 62), args := #[Operand.tmp 4], argTypes := #[52] }, type := 22, pos := "ref.go:67", after := #[{ on := 1, ground := Ground.data }], guard := none }) rfl (fun K hK => ?_) AllReadyH.nil)
  go_simp
  refine (LA.out _).mono ?_
  rintro e y1 ⟨G1, k1, rfl, ho, hb⟩
  have R1 := Lib.hid ho
  replace BV := Lib.hid (BV.out.trans (hb.mono hvs))
  have hsy1 : w.heap.size + 2 ≤ y1.heap.size := Nat.le_trans hvs hb.size
  clear ho hb hHeld
  refine hK.out _ _ (FA.out _ BV.out) (fun hHeld => ?_)
  clear hK K
  try simp only [Act.put, List.setIfInBounds_toArray, List.set_cons_zero, List.set_cons_succ]
  refine wpAnyH_ready (rs := [5]) (by kernel_rfl) (by simp) (AllReadyH.cons (o := { dst := some 8, op := Op.call { callee := Callee.value (Operand.func 62), args := #[Operand.tmp 7], argTypes := #[52] }, type := 22, pos := "ref.go:67", after := #[{ on := 4, ground := Ground.data }, { on := 2, ground := Ground.chain }], guard := none }) rfl (fun K hK => ?_) AllReadyH.nil)
  go_simp
  refine (LB.out _).mono ?_
  rintro e y2 ⟨G2, k2, rfl, ho, hb⟩
  have R2 := Lib.hid ho
  have R3 := Lib.hid (ownsRow_below R1.out (fun b h => hb.block b (R1.out.lt b h).2) (Nat.le_refl _))
  have R4 := Lib.hid (fun b (h : Value.ownBlock (.slice G1 (bitsOf 64 0 lo).length k1) = some b) => (R1.out.lt b h).2)
  replace BV := Lib.hid (BV.out.trans (hb.mono hsy1))
  have hsy2 : w.heap.size + 2 ≤ y2.heap.size := Nat.le_trans hsy1 hb.size
  clear ho hb hHeld
  refine hK.out _ _ (FA.out _ BV.out) (fun hHeld => ?_)
  clear hK K
  try simp only [Act.put, List.setIfInBounds_toArray, List.set_cons_zero, List.set_cons_succ]
  refine wpAnyH_take (i := 10) (oi := { dst := some 13, op := Op.build 24 #[(0, Operand.tmp 5), (1, Operand.tmp 8), (2, Operand.tmp 10), (3, Operand.tmp 12)], type := 24, pos := "ref.go:67", after := #[{ on := 2, ground := Ground.data }, { on := 5, ground := Ground.data }, { on := 7, ground := Ground.data }, { on := 9, ground := Ground.data }], guard := none }) (v := ?vn9k10) rfl (by kernel_rfl) (by kernel_rfl) (by kernel_rfl) (fun _ _ _ h => h) (Or.inl ⟨by kernel_rfl, ?yn9k10⟩) (by assumption) ?rn9k10
  case yn9k10 => intro w hSw; (try dsimp only at hSw); go_simp; try with_reducible rfl
  try simp only [Act.put, List.setIfInBounds_toArray, List.set_cons_zero, List.set_cons_succ]
  have FF := Lib.hid (show famCells y2 (w.heap.size + 1) from (BV.out.block _ (by omega)).trans BF.out)
  obtain ⟨q0, q1, q2, q3, fz⟩ := famCells_facts FF.out
  refine wpAnyH_ready (rs := [11]) (by kernel_rfl) (by simp) (AllReadyH.cons (o := { dst := none, op := Op.store 24 (Operand.tmp 2) (Operand.tmp 13), type := 0, pos := "ref.go:67", after := #[{ on := 10, ground := Ground.data }, { on := 5, ground := Ground.chain }, { on := 0, ground := Ground.phase }, { on := 1, ground := Ground.phase }, { on := 2, ground := Ground.phase }, { on := 3, ground := Ground.phase }, { on := 4, ground := Ground.phase }, { on := 5, ground := Ground.phase }, { on := 6, ground := Ground.phase }, { on := 7, ground := Ground.phase }, { on := 8, ground := Ground.phase }, { on := 9, ground := Ground.phase }, { on := 10, ground := Ground.phase }], guard := none }) rfl (fun K hK => ?_) AllReadyH.nil)
  go_simp
  have pz := fam_put (show y2.heap[w.heap.size + 1]? = some (.cells #[.slice none 0 0, .slice none 0 0, .int .i64 0, .int .i64 0] 24 (0, 0)) from FF.out) (.slice G1 (bitsOf 64 0 lo).length k1) (.slice G2 (bitsOf 64 0 hi).length k2) (.int .i64 mn) (.int .i64 mx)
  have P1 := Lib.hid pz.1
  have P2 := Lib.hid pz.2
  clear pz q0 q1 q2 q3 fz hHeld
  generalize ((((y2.setCell ⟨w.heap.size + 1, 0, none⟩ (.slice G1 (bitsOf 64 0 lo).length k1)).setCell ⟨w.heap.size + 1, 1, none⟩ (.slice G2 (bitsOf 64 0 hi).length k2)).setCell ⟨w.heap.size + 1, 2, none⟩ (.int .i64 mn)).setCell ⟨w.heap.size + 1, 3, none⟩ (.int .i64 mx)) = W6 at *
  have S6 : (fun wx : World => wx.cell? ⟨w.heap.size, 0, none⟩ = some (.int .u64 lo) ∧ wx.cell? ⟨w.heap.size, 1, none⟩ = some (.int .u64 hi) ∧ wx.cell? ⟨w.heap.size, 2, none⟩ = some (.int .i64 mn) ∧ wx.cell? ⟨w.heap.size, 3, none⟩ = some (.int .i64 mx)) W6 := by
    have h := FA.out _ BV.out
    refine ⟨?_, ?_, ?_, ?_⟩ <;> (simp only [World.cell?, P2.out.2 w.heap.size (by omega)]; first | exact h.1 | exact h.2.1 | exact h.2.2.1 | exact h.2.2.2)
  refine hK.out _ _ S6 (fun _ => ?_)
  clear hK K S6
  refine wpAnyH_done (by kernel_rfl) ?_ _
  go_wp2_with fail
  refine bodyPost_ret (v := .agg #[.slice G1 (bitsOf 64 0 lo).length k1, .slice G2 (bitsOf 64 0 hi).length k2, .int .i64 mn, .int .i64 mx]) (results_cell_row rfl _ _ (w.heap.size + 1) 24 _ (0, 0) _ rfl P1.out Tryz.underlying24 rfl (by kernel_rfl)) rfl ?_
  refine ⟨⟨_, rfl, _, _, rfl, ⟨⟨_, _, rfl⟩, ownsRow_below R3.out (fun b hb => P2.out.2 b ?_) (by omega)⟩, ⟨⟨_, _, rfl⟩, ownsRow_below R2.out (fun b hb => P2.out.2 b ?_) (by omega)⟩, fun b h1 h2 => ?_⟩, BA.out.trans ((BV.out.mono (by omega)).trans (P2.out.1.mono (by omega)))⟩
  · have := (R3.out.lt b hb).1; omega
  · have := (R2.out.lt b hb).1; omega
  · have g1 := R4.out b h1
    have g2 := (R2.out.lt b h2).1
    omega
end Go.Proofs.YtcbjkclajkjicaaGreatDoor
