/-
  A family in words: both sides'.
-/
import Derived.Deep.RegionHeld
import Derived.Test.YtcbjkclajkjicaaGreatDoorFrD
import Derived.Test.YtcbjkclajkjicaaGreatDoorFaE
namespace Go.Proofs.YtcbjkclajkjicaaGreatDoor
set_option linter.unusedSimpArgs false
open Go Go.RowKit Go.Shelf Go.Ev

set_option maxRecDepth 100000 in
set_option maxHeartbeats 4000000 in
theorem boundsOf_any (lo hi : List Int) (mn mx : Int) (A B : Option Addr) (c1 c2 : Nat) (w : World) (ha : Ints w A lo) (hb : Ints w B hi) (h1 : lo.all inR = true) (h2 : hi.all inR = true) :
    Calls Tryz.prog 26 #[.agg #[.slice A lo.length c1, .slice B hi.length c2, .int .i64 mn, .int .i64 mx]] w fun e w' => e = .returned (.agg #[.int .u64 (setN lo : Nat), .int .u64 (setN hi : Nat), .int .i64 mn, .int .i64 mx]) ∧ Below w.heap.size w w' := by
  have LA := Lib.hid (fun w1 (h : Below w.heap.size w w1) => fsetOf_any lo A c1 w1 (ha.over h) h1)
  have LB := Lib.hid (fun w1 (h : Below w.heap.size w w1) => fsetOf_any hi B c2 w1 (hb.over h) h2)
  have hl1 := ha.1
  have hl2 := hb.1
  clear ha hb h1 h2
  generalize setN lo = X at *
  generalize setN hi = Y at *
  generalize lo.length = n1 at *
  generalize hi.length = n2 at *
  go_enter Tryz.func26, Tryz.ntmps26
  go_wp2_with fail
  generalize hW1 : (w.alloc (.cells #[.slice A n1 c1, .slice B n2 c2, .int .i64 mn, .int .i64 mx] 24)).alloc (.cells #[.int .u64 0, .int .u64 0, .int .i64 0, .int .i64 0] 58) = W1
  have HB1 := Lib.hid (show Below w.heap.size w W1.drew by rw [← hW1]; exact (((Below.refl _ w).alloc (Nat.le_refl _) _).alloc (by simp) _).drew)
  have hs1 : W1.heap.size = w.heap.size + 2 := by rw [← hW1]; simp
  have hc1 : W1.drew.heap[w.heap.size]? = some (.cells #[.slice A n1 c1, .slice B n2 c2, .int .i64 mn, .int .i64 mx] 24 (0, 0)) := by rw [← hW1]; exact heap_alloc2_old _ _ _
  have hf1 : W1.drew.heap[w.heap.size + 1]? = some (.cells #[.int .u64 0, .int .u64 0, .int .i64 0, .int .i64 0] 58 (0, 0)) := by rw [← hW1]; exact heap_alloc2_new _ _ _
  have MK : ∀ wx : World, wx.heap[w.heap.size]? = W1.drew.heap[w.heap.size]? → (fun (wx : World) => wx.cell? ⟨w.heap.size, 0, none⟩ = some (.slice A n1 c1) ∧ wx.cell? ⟨w.heap.size, 1, none⟩ = some (.slice B n2 c2) ∧ wx.cell? ⟨w.heap.size, 2, none⟩ = some (.int .i64 mn) ∧ wx.cell? ⟨w.heap.size, 3, none⟩ = some (.int .i64 mx)) wx := fun wx h => by
    rw [hc1] at h
    refine ⟨?_, ?_, ?_, ?_⟩ <;> (simp only [World.cell?, h]; rfl)
  have MKH := Lib.hid MK
  have FC := Lib.hid hf1
  have S0 := MK W1.drew rfl
  clear hW1 hc1 MK hf1
  refine wp_region_held_drew (S := fun (wx : World) => wx.cell? ⟨w.heap.size, 0, none⟩ = some (.slice A n1 c1) ∧ wx.cell? ⟨w.heap.size, 1, none⟩ = some (.slice B n2 c2) ∧ wx.cell? ⟨w.heap.size, 2, none⟩ = some (.int .i64 mn) ∧ wx.cell? ⟨w.heap.size, 3, none⟩ = some (.int .i64 mx)) (by kernel_rfl) S0 (fun hHeld => ?_)
  generalize W1.drew = V at *
  refine wpAnyH_take (i := 0) (oi := { dst := some 3, op := Op.fieldAddr 24 (Operand.tmp 1) 0, type := 0, pos := "bounds.go:44", after := #[], guard := none }) (v := ?vn1k0) rfl (by kernel_rfl) (by kernel_rfl) (by kernel_rfl) (fun _ _ _ h => h) (Or.inl ⟨by kernel_rfl, ?yn1k0⟩) (by assumption) ?rn1k0
  case yn1k0 => intro w hSw; (try dsimp only at hSw); go_simp; try with_reducible rfl
  try simp only [Act.put, List.setIfInBounds_toArray, List.set_cons_zero, List.set_cons_succ]
  refine wpAnyH_take (i := 1) (oi := { dst := some 4, op := Op.load 22 (Operand.tmp 3), type := 22, pos := "bounds.go:44", after := #[{ on := 0, ground := Ground.data }], guard := none }) (v := ?vn2k1) rfl (by kernel_rfl) (by kernel_rfl) (by kernel_rfl) (fun _ _ _ h => h) (Or.inl ⟨by kernel_rfl, ?yn2k1⟩) (by assumption) ?rn2k1
  case yn2k1 => intro w hSw; (try dsimp only at hSw); go_simp; try with_reducible rfl
  try simp only [Act.put, List.setIfInBounds_toArray, List.set_cons_zero, List.set_cons_succ]
  refine wpAnyH_take (i := 3) (oi := { dst := some 6, op := Op.fieldAddr 24 (Operand.tmp 1) 1, type := 0, pos := "bounds.go:44", after := #[], guard := none }) (v := ?vn3k3) rfl (by kernel_rfl) (by kernel_rfl) (by kernel_rfl) (fun _ _ _ h => h) (Or.inl ⟨by kernel_rfl, ?yn3k3⟩) (by assumption) ?rn3k3
  case yn3k3 => intro w hSw; (try dsimp only at hSw); go_simp; try with_reducible rfl
  try simp only [Act.put, List.setIfInBounds_toArray, List.set_cons_zero, List.set_cons_succ]
  refine wpAnyH_take (i := 4) (oi := { dst := some 7, op := Op.load 22 (Operand.tmp 6), type := 22, pos := "bounds.go:44", after := #[{ on := 3, ground := Ground.data }], guard := none }) (v := ?vn4k4) rfl (by kernel_rfl) (by kernel_rfl) (by kernel_rfl) (fun _ _ _ h => h) (Or.inl ⟨by kernel_rfl, ?yn4k4⟩) (by assumption) ?rn4k4
  case yn4k4 => intro w hSw; (try dsimp only at hSw); go_simp; try with_reducible rfl
  try simp only [Act.put, List.setIfInBounds_toArray, List.set_cons_zero, List.set_cons_succ]
  refine wpAnyH_take (i := 6) (oi := { dst := some 9, op := Op.fieldAddr 24 (Operand.tmp 1) 2, type := 0, pos := "bounds.go:44", after := #[], guard := none }) (v := ?vn5k6) rfl (by kernel_rfl) (by kernel_rfl) (by kernel_rfl) (fun _ _ _ h => h) (Or.inl ⟨by kernel_rfl, ?yn5k6⟩) (by assumption) ?rn5k6
  case yn5k6 => intro w hSw; (try dsimp only at hSw); go_simp; try with_reducible rfl
  try simp only [Act.put, List.setIfInBounds_toArray, List.set_cons_zero, List.set_cons_succ]
  refine wpAnyH_take (i := 7) (oi := { dst := some 10, op := Op.load 3 (Operand.tmp 9), type := 3, pos := "bounds.go:44", after := #[{ on := 6, ground := Ground.data }], guard := none }) (v := ?vn6k7) rfl (by kernel_rfl) (by kernel_rfl) (by kernel_rfl) (fun _ _ _ h => h) (Or.inl ⟨by kernel_rfl, ?yn6k7⟩) (by assumption) ?rn6k7
  case yn6k7 => intro w hSw; (try dsimp only at hSw); go_simp; try with_reducible rfl
  try simp only [Act.put, List.setIfInBounds_toArray, List.set_cons_zero, List.set_cons_succ]
  refine wpAnyH_take (i := 8) (oi := { dst := some 11, op := Op.fieldAddr 24 (Operand.tmp 1) 3, type := 0, pos := "bounds.go:44", after := #[], guard := none }) (v := ?vn7k8) rfl (by kernel_rfl) (by kernel_rfl) (by kernel_rfl) (fun _ _ _ h => h) (Or.inl ⟨by kernel_rfl, ?yn7k8⟩) (by assumption) ?rn7k8
  case yn7k8 => intro w hSw; (try dsimp only at hSw); go_simp; try with_reducible rfl
  try simp only [Act.put, List.setIfInBounds_toArray, List.set_cons_zero, List.set_cons_succ]
  refine wpAnyH_take (i := 9) (oi := { dst := some 12, op := Op.load 3 (Operand.tmp 11), type := 3, pos := "bounds.go:44", after := #[{ on := 8, ground := Ground.data }], guard := none }) (v := ?vn8k9) rfl (by kernel_rfl) (by kernel_rfl) (by kernel_rfl) (fun _ _ _ h => h) (Or.inl ⟨by kernel_rfl, ?yn8k9⟩) (by assumption) ?rn8k9
  case yn8k9 => intro w hSw; (try dsimp only at hSw); go_simp; try with_reducible rfl
  try simp only [Act.put, List.setIfInBounds_toArray, List.set_cons_zero, List.set_cons_succ]
  refine wpAnyH_ready (rs := [2]) (by kernel_rfl) (by simp) (AllReadyH.cons (o := { dst := some 5, op := Op.call { callee := Callee.value (Operand.func 45), args := #[Operand.tmp 4], argTypes := #[22] }, type := 56, pos := "bounds.go:44", after := #[{ on := 1, ground := Ground.data }], guard := none }) rfl (fun K hK => ?_) AllReadyH.nil)
  go_simp
  refine (LA.out _ HB1.out).mono ?_
  rintro e x2 ⟨rfl, rfl⟩
  clear hHeld
  refine hK.out _ _ (by assumption) (fun hHeld => ?_)
  clear hK K
  try simp only [Act.put, List.setIfInBounds_toArray, List.set_cons_zero, List.set_cons_succ]
  refine wpAnyH_ready (rs := [5]) (by kernel_rfl) (by simp) (AllReadyH.cons (o := { dst := some 8, op := Op.call { callee := Callee.value (Operand.func 45), args := #[Operand.tmp 7], argTypes := #[22] }, type := 56, pos := "bounds.go:44", after := #[{ on := 4, ground := Ground.data }, { on := 2, ground := Ground.chain }], guard := none }) rfl (fun K hK => ?_) AllReadyH.nil)
  go_simp
  refine (LB.out _ HB1.out).mono ?_
  rintro e x5 ⟨rfl, rfl⟩
  clear hHeld
  refine hK.out _ _ (by assumption) (fun hHeld => ?_)
  clear hK K
  try simp only [Act.put, List.setIfInBounds_toArray, List.set_cons_zero, List.set_cons_succ]
  refine wpAnyH_take (i := 10) (oi := { dst := some 13, op := Op.build 58 #[(0, Operand.tmp 5), (1, Operand.tmp 8), (2, Operand.tmp 10), (3, Operand.tmp 12)], type := 58, pos := "bounds.go:44", after := #[{ on := 2, ground := Ground.data }, { on := 5, ground := Ground.data }, { on := 7, ground := Ground.data }, { on := 9, ground := Ground.data }], guard := none }) (v := ?vn9k10) rfl (by kernel_rfl) (by kernel_rfl) (by kernel_rfl) (fun _ _ _ h => h) (Or.inl ⟨by kernel_rfl, ?yn9k10⟩) (by assumption) ?rn9k10
  case yn9k10 => intro w hSw; (try dsimp only at hSw); go_simp; try with_reducible rfl
  try simp only [Act.put, List.setIfInBounds_toArray, List.set_cons_zero, List.set_cons_succ]
  have c0 : x5.cell? ⟨w.heap.size + 1, 0, none⟩ = some (.int .u64 0) := by simp only [World.cell?, FC.out]; rfl
  have c1 : x5.cell? ⟨w.heap.size + 1, 1, none⟩ = some (.int .u64 0) := by simp only [World.cell?, FC.out]; rfl
  have c2 : x5.cell? ⟨w.heap.size + 1, 2, none⟩ = some (.int .i64 0) := by simp only [World.cell?, FC.out]; rfl
  have c3 : x5.cell? ⟨w.heap.size + 1, 3, none⟩ = some (.int .i64 0) := by simp only [World.cell?, FC.out]; rfl
  have f0 : ∀ o, x5.frozen? ⟨w.heap.size + 1, o, none⟩ = false := fun o => by simp [World.frozen?, FC.out]
  clear S0
  refine wpAnyH_ready (rs := [11]) (by kernel_rfl) (by simp) (AllReadyH.cons (o := { dst := none, op := Op.store 58 (Operand.tmp 2) (Operand.tmp 13), type := 0, pos := "bounds.go:44", after := #[{ on := 10, ground := Ground.data }, { on := 5, ground := Ground.chain }, { on := 0, ground := Ground.phase }, { on := 1, ground := Ground.phase }, { on := 2, ground := Ground.phase }, { on := 3, ground := Ground.phase }, { on := 4, ground := Ground.phase }, { on := 5, ground := Ground.phase }, { on := 6, ground := Ground.phase }, { on := 7, ground := Ground.phase }, { on := 8, ground := Ground.phase }, { on := 9, ground := Ground.phase }, { on := 10, ground := Ground.phase }], guard := none }) rfl (fun K hK => ?_) AllReadyH.nil)
  go_simp
  have hz0 := heap_setCell_same _ (w.heap.size + 1) 0 _ _ (.int .u64 (X : Int)) FC.out
  have hz1 := heap_setCell_same _ (w.heap.size + 1) 1 _ _ (.int .u64 (Y : Int)) hz0
  have hz2 := heap_setCell_same _ (w.heap.size + 1) 2 _ _ (.int .i64 mn) hz1
  have hz3 := heap_setCell_same _ (w.heap.size + 1) 3 _ _ (.int .i64 mx) hz2
  have bz : Below (w.heap.size + 1) x5 ((((x5.setCell ⟨w.heap.size + 1, 0, none⟩ (.int .u64 (X : Int))).setCell ⟨w.heap.size + 1, 1, none⟩ (.int .u64 (Y : Int))).setCell ⟨w.heap.size + 1, 2, none⟩ (.int .i64 mn)).setCell ⟨w.heap.size + 1, 3, none⟩ (.int .i64 mx)) := ((((Below.refl _ x5).setCell (p := ⟨w.heap.size + 1, 0, none⟩) (Nat.le_refl _) _).setCell (p := ⟨w.heap.size + 1, 1, none⟩) (Nat.le_refl _) _).setCell (p := ⟨w.heap.size + 1, 2, none⟩) (Nat.le_refl _) _).setCell (p := ⟨w.heap.size + 1, 3, none⟩) (Nat.le_refl _) _
  have S6 := MKH.out _ (bz.block _ (Nat.lt_succ_self _))
  have HZ := Lib.hid hz3
  have BZ := Lib.hid bz
  clear hz0 c0 hz1 c1 hz2 c2 hz3 c3 bz f0 hHeld
  generalize ((((x5.setCell ⟨w.heap.size + 1, 0, none⟩ (.int .u64 (X : Int))).setCell ⟨w.heap.size + 1, 1, none⟩ (.int .u64 (Y : Int))).setCell ⟨w.heap.size + 1, 2, none⟩ (.int .i64 mn)).setCell ⟨w.heap.size + 1, 3, none⟩ (.int .i64 mx)) = W6 at *
  refine hK.out _ _ S6 (fun _ => ?_)
  clear hK K S6
  refine wpAnyH_done (by kernel_rfl) ?_ _
  go_wp2_with fail
  refine bodyPost_ret (v := .agg #[.int .u64 (X : Int), .int .u64 (Y : Int), .int .i64 mn, .int .i64 mx]) (results_cell_row rfl _ _ (w.heap.size + 1) 58 _ (0, 0) _ rfl HZ.out Tryz.underlying58 rfl (by kernel_rfl)) rfl ?_
  exact ⟨rfl, HB1.out.trans (BZ.out.mono (by omega))⟩
set_option maxRecDepth 100000 in
set_option maxHeartbeats 4000000 in
theorem rin_any (lo hi : List Int) (mn mx : Int) (A B : Option Addr) (c1 c2 : Nat) (w : World) (ha : Ints w A lo) (hb : Ints w B hi) (h1 : lo.all inR = true) (h2 : hi.all inR = true) :
    Calls Tryz.prog 34 #[.agg #[.slice A lo.length c1, .slice B hi.length c2, .int .i64 mn, .int .i64 mx]] w fun e w' => e = .returned (.agg #[.int .u64 (setN lo : Nat), .int .u64 (setN hi : Nat), .int .i64 mn, .int .i64 mx, .bool false]) ∧ Below w.heap.size w w' := by
  have LA := Lib.hid (fun w1 (h : Below w.heap.size w w1) => rof_any lo A c1 w1 (ha.over h) h1)
  have LB := Lib.hid (fun w1 (h : Below w.heap.size w w1) => rof_any hi B c2 w1 (hb.over h) h2)
  have hl1 := ha.1
  have hl2 := hb.1
  clear ha hb h1 h2
  generalize setN lo = X at *
  generalize setN hi = Y at *
  generalize lo.length = n1 at *
  generalize hi.length = n2 at *
  go_enter Tryz.func34, Tryz.ntmps34
  go_wp2_with fail
  generalize hW1 : (w.alloc (.cells #[.slice A n1 c1, .slice B n2 c2, .int .i64 mn, .int .i64 mx] 24)).alloc (.cells #[.int .u64 0, .int .u64 0, .int .i64 0, .int .i64 0, .bool false] 65) = W1
  have HB1 := Lib.hid (show Below w.heap.size w W1.drew by rw [← hW1]; exact (((Below.refl _ w).alloc (Nat.le_refl _) _).alloc (by simp) _).drew)
  have hs1 : W1.heap.size = w.heap.size + 2 := by rw [← hW1]; simp
  have hc1 : W1.drew.heap[w.heap.size]? = some (.cells #[.slice A n1 c1, .slice B n2 c2, .int .i64 mn, .int .i64 mx] 24 (0, 0)) := by rw [← hW1]; exact heap_alloc2_old _ _ _
  have hf1 : W1.drew.heap[w.heap.size + 1]? = some (.cells #[.int .u64 0, .int .u64 0, .int .i64 0, .int .i64 0, .bool false] 65 (0, 0)) := by rw [← hW1]; exact heap_alloc2_new _ _ _
  have MK : ∀ wx : World, wx.heap[w.heap.size]? = W1.drew.heap[w.heap.size]? → (fun (wx : World) => wx.cell? ⟨w.heap.size, 0, none⟩ = some (.slice A n1 c1) ∧ wx.cell? ⟨w.heap.size, 1, none⟩ = some (.slice B n2 c2) ∧ wx.cell? ⟨w.heap.size, 2, none⟩ = some (.int .i64 mn) ∧ wx.cell? ⟨w.heap.size, 3, none⟩ = some (.int .i64 mx)) wx := fun wx h => by
    rw [hc1] at h
    refine ⟨?_, ?_, ?_, ?_⟩ <;> (simp only [World.cell?, h]; rfl)
  have MKH := Lib.hid MK
  have FC := Lib.hid hf1
  have S0 := MK W1.drew rfl
  clear hW1 hc1 MK hf1
  refine wp_region_held_drew (S := fun (wx : World) => wx.cell? ⟨w.heap.size, 0, none⟩ = some (.slice A n1 c1) ∧ wx.cell? ⟨w.heap.size, 1, none⟩ = some (.slice B n2 c2) ∧ wx.cell? ⟨w.heap.size, 2, none⟩ = some (.int .i64 mn) ∧ wx.cell? ⟨w.heap.size, 3, none⟩ = some (.int .i64 mx)) (by kernel_rfl) S0 (fun hHeld => ?_)
  generalize W1.drew = V at *
  refine wpAnyH_take (i := 0) (oi := { dst := some 3, op := Op.fieldAddr 24 (Operand.tmp 1) 0, type := 0, pos := "ref.go:63", after := #[], guard := none }) (v := ?vn10k0) rfl (by kernel_rfl) (by kernel_rfl) (by kernel_rfl) (fun _ _ _ h => h) (Or.inl ⟨by kernel_rfl, ?yn10k0⟩) (by assumption) ?rn10k0
  case yn10k0 => intro w hSw; (try dsimp only at hSw); go_simp; try with_reducible rfl
  try simp only [Act.put, List.setIfInBounds_toArray, List.set_cons_zero, List.set_cons_succ]
  refine wpAnyH_take (i := 1) (oi := { dst := some 4, op := Op.load 22 (Operand.tmp 3), type := 22, pos := "ref.go:63", after := #[{ on := 0, ground := Ground.data }], guard := none }) (v := ?vn11k1) rfl (by kernel_rfl) (by kernel_rfl) (by kernel_rfl) (fun _ _ _ h => h) (Or.inl ⟨by kernel_rfl, ?yn11k1⟩) (by assumption) ?rn11k1
  case yn11k1 => intro w hSw; (try dsimp only at hSw); go_simp; try with_reducible rfl
  try simp only [Act.put, List.setIfInBounds_toArray, List.set_cons_zero, List.set_cons_succ]
  refine wpAnyH_take (i := 3) (oi := { dst := some 6, op := Op.fieldAddr 24 (Operand.tmp 1) 1, type := 0, pos := "ref.go:63", after := #[], guard := none }) (v := ?vn12k3) rfl (by kernel_rfl) (by kernel_rfl) (by kernel_rfl) (fun _ _ _ h => h) (Or.inl ⟨by kernel_rfl, ?yn12k3⟩) (by assumption) ?rn12k3
  case yn12k3 => intro w hSw; (try dsimp only at hSw); go_simp; try with_reducible rfl
  try simp only [Act.put, List.setIfInBounds_toArray, List.set_cons_zero, List.set_cons_succ]
  refine wpAnyH_take (i := 4) (oi := { dst := some 7, op := Op.load 22 (Operand.tmp 6), type := 22, pos := "ref.go:63", after := #[{ on := 3, ground := Ground.data }], guard := none }) (v := ?vn13k4) rfl (by kernel_rfl) (by kernel_rfl) (by kernel_rfl) (fun _ _ _ h => h) (Or.inl ⟨by kernel_rfl, ?yn13k4⟩) (by assumption) ?rn13k4
  case yn13k4 => intro w hSw; (try dsimp only at hSw); go_simp; try with_reducible rfl
  try simp only [Act.put, List.setIfInBounds_toArray, List.set_cons_zero, List.set_cons_succ]
  refine wpAnyH_take (i := 6) (oi := { dst := some 9, op := Op.fieldAddr 24 (Operand.tmp 1) 2, type := 0, pos := "ref.go:63", after := #[], guard := none }) (v := ?vn14k6) rfl (by kernel_rfl) (by kernel_rfl) (by kernel_rfl) (fun _ _ _ h => h) (Or.inl ⟨by kernel_rfl, ?yn14k6⟩) (by assumption) ?rn14k6
  case yn14k6 => intro w hSw; (try dsimp only at hSw); go_simp; try with_reducible rfl
  try simp only [Act.put, List.setIfInBounds_toArray, List.set_cons_zero, List.set_cons_succ]
  refine wpAnyH_take (i := 7) (oi := { dst := some 10, op := Op.load 3 (Operand.tmp 9), type := 3, pos := "ref.go:63", after := #[{ on := 6, ground := Ground.data }], guard := none }) (v := ?vn15k7) rfl (by kernel_rfl) (by kernel_rfl) (by kernel_rfl) (fun _ _ _ h => h) (Or.inl ⟨by kernel_rfl, ?yn15k7⟩) (by assumption) ?rn15k7
  case yn15k7 => intro w hSw; (try dsimp only at hSw); go_simp; try with_reducible rfl
  try simp only [Act.put, List.setIfInBounds_toArray, List.set_cons_zero, List.set_cons_succ]
  refine wpAnyH_take (i := 8) (oi := { dst := some 11, op := Op.fieldAddr 24 (Operand.tmp 1) 3, type := 0, pos := "ref.go:63", after := #[], guard := none }) (v := ?vn16k8) rfl (by kernel_rfl) (by kernel_rfl) (by kernel_rfl) (fun _ _ _ h => h) (Or.inl ⟨by kernel_rfl, ?yn16k8⟩) (by assumption) ?rn16k8
  case yn16k8 => intro w hSw; (try dsimp only at hSw); go_simp; try with_reducible rfl
  try simp only [Act.put, List.setIfInBounds_toArray, List.set_cons_zero, List.set_cons_succ]
  refine wpAnyH_take (i := 9) (oi := { dst := some 12, op := Op.load 3 (Operand.tmp 11), type := 3, pos := "ref.go:63", after := #[{ on := 8, ground := Ground.data }], guard := none }) (v := ?vn17k9) rfl (by kernel_rfl) (by kernel_rfl) (by kernel_rfl) (fun _ _ _ h => h) (Or.inl ⟨by kernel_rfl, ?yn17k9⟩) (by assumption) ?rn17k9
  case yn17k9 => intro w hSw; (try dsimp only at hSw); go_simp; try with_reducible rfl
  try simp only [Act.put, List.setIfInBounds_toArray, List.set_cons_zero, List.set_cons_succ]
  refine wpAnyH_ready (rs := [2]) (by kernel_rfl) (by simp) (AllReadyH.cons (o := { dst := some 5, op := Op.call { callee := Callee.value (Operand.func 24), args := #[Operand.tmp 4], argTypes := #[22] }, type := 52, pos := "ref.go:63", after := #[{ on := 1, ground := Ground.data }], guard := none }) rfl (fun K hK => ?_) AllReadyH.nil)
  go_simp
  refine (LA.out _ HB1.out).mono ?_
  rintro e x2 ⟨rfl, rfl⟩
  clear hHeld
  refine hK.out _ _ (by assumption) (fun hHeld => ?_)
  clear hK K
  try simp only [Act.put, List.setIfInBounds_toArray, List.set_cons_zero, List.set_cons_succ]
  refine wpAnyH_ready (rs := [5]) (by kernel_rfl) (by simp) (AllReadyH.cons (o := { dst := some 8, op := Op.call { callee := Callee.value (Operand.func 24), args := #[Operand.tmp 7], argTypes := #[22] }, type := 52, pos := "ref.go:63", after := #[{ on := 4, ground := Ground.data }, { on := 2, ground := Ground.chain }], guard := none }) rfl (fun K hK => ?_) AllReadyH.nil)
  go_simp
  refine (LB.out _ HB1.out).mono ?_
  rintro e x5 ⟨rfl, rfl⟩
  clear hHeld
  refine hK.out _ _ (by assumption) (fun hHeld => ?_)
  clear hK K
  try simp only [Act.put, List.setIfInBounds_toArray, List.set_cons_zero, List.set_cons_succ]
  refine wpAnyH_take (i := 10) (oi := { dst := some 13, op := Op.build 65 #[(0, Operand.tmp 5), (1, Operand.tmp 8), (2, Operand.tmp 10), (3, Operand.tmp 12)], type := 65, pos := "ref.go:63", after := #[{ on := 2, ground := Ground.data }, { on := 5, ground := Ground.data }, { on := 7, ground := Ground.data }, { on := 9, ground := Ground.data }], guard := none }) (v := ?vn18k10) rfl (by kernel_rfl) (by kernel_rfl) (by kernel_rfl) (fun _ _ _ h => h) (Or.inl ⟨by kernel_rfl, ?yn18k10⟩) (by assumption) ?rn18k10
  case yn18k10 => intro w hSw; (try dsimp only at hSw); go_simp; try with_reducible rfl
  try simp only [Act.put, List.setIfInBounds_toArray, List.set_cons_zero, List.set_cons_succ]
  have c0 : x5.cell? ⟨w.heap.size + 1, 0, none⟩ = some (.int .u64 0) := by simp only [World.cell?, FC.out]; rfl
  have c1 : x5.cell? ⟨w.heap.size + 1, 1, none⟩ = some (.int .u64 0) := by simp only [World.cell?, FC.out]; rfl
  have c2 : x5.cell? ⟨w.heap.size + 1, 2, none⟩ = some (.int .i64 0) := by simp only [World.cell?, FC.out]; rfl
  have c3 : x5.cell? ⟨w.heap.size + 1, 3, none⟩ = some (.int .i64 0) := by simp only [World.cell?, FC.out]; rfl
  have c4 : x5.cell? ⟨w.heap.size + 1, 4, none⟩ = some (.bool false) := by simp only [World.cell?, FC.out]; rfl
  have f0 : ∀ o, x5.frozen? ⟨w.heap.size + 1, o, none⟩ = false := fun o => by simp [World.frozen?, FC.out]
  clear S0
  refine wpAnyH_ready (rs := [11]) (by kernel_rfl) (by simp) (AllReadyH.cons (o := { dst := none, op := Op.store 65 (Operand.tmp 2) (Operand.tmp 13), type := 0, pos := "ref.go:63", after := #[{ on := 10, ground := Ground.data }, { on := 5, ground := Ground.chain }, { on := 0, ground := Ground.phase }, { on := 1, ground := Ground.phase }, { on := 2, ground := Ground.phase }, { on := 3, ground := Ground.phase }, { on := 4, ground := Ground.phase }, { on := 5, ground := Ground.phase }, { on := 6, ground := Ground.phase }, { on := 7, ground := Ground.phase }, { on := 8, ground := Ground.phase }, { on := 9, ground := Ground.phase }, { on := 10, ground := Ground.phase }], guard := none }) rfl (fun K hK => ?_) AllReadyH.nil)
  go_simp
  have hz0 := heap_setCell_same _ (w.heap.size + 1) 0 _ _ (.int .u64 (X : Int)) FC.out
  have hz1 := heap_setCell_same _ (w.heap.size + 1) 1 _ _ (.int .u64 (Y : Int)) hz0
  have hz2 := heap_setCell_same _ (w.heap.size + 1) 2 _ _ (.int .i64 mn) hz1
  have hz3 := heap_setCell_same _ (w.heap.size + 1) 3 _ _ (.int .i64 mx) hz2
  have hz4 := heap_setCell_same _ (w.heap.size + 1) 4 _ _ (.bool false) hz3
  have bz : Below (w.heap.size + 1) x5 (((((x5.setCell ⟨w.heap.size + 1, 0, none⟩ (.int .u64 (X : Int))).setCell ⟨w.heap.size + 1, 1, none⟩ (.int .u64 (Y : Int))).setCell ⟨w.heap.size + 1, 2, none⟩ (.int .i64 mn)).setCell ⟨w.heap.size + 1, 3, none⟩ (.int .i64 mx)).setCell ⟨w.heap.size + 1, 4, none⟩ (.bool false)) := (((((Below.refl _ x5).setCell (p := ⟨w.heap.size + 1, 0, none⟩) (Nat.le_refl _) _).setCell (p := ⟨w.heap.size + 1, 1, none⟩) (Nat.le_refl _) _).setCell (p := ⟨w.heap.size + 1, 2, none⟩) (Nat.le_refl _) _).setCell (p := ⟨w.heap.size + 1, 3, none⟩) (Nat.le_refl _) _).setCell (p := ⟨w.heap.size + 1, 4, none⟩) (Nat.le_refl _) _
  have S6 := MKH.out _ (bz.block _ (Nat.lt_succ_self _))
  have HZ := Lib.hid hz4
  have BZ := Lib.hid bz
  clear hz0 c0 hz1 c1 hz2 c2 hz3 c3 hz4 c4 bz f0 hHeld
  generalize (((((x5.setCell ⟨w.heap.size + 1, 0, none⟩ (.int .u64 (X : Int))).setCell ⟨w.heap.size + 1, 1, none⟩ (.int .u64 (Y : Int))).setCell ⟨w.heap.size + 1, 2, none⟩ (.int .i64 mn)).setCell ⟨w.heap.size + 1, 3, none⟩ (.int .i64 mx)).setCell ⟨w.heap.size + 1, 4, none⟩ (.bool false)) = W6 at *
  refine hK.out _ _ S6 (fun _ => ?_)
  clear hK K S6
  refine wpAnyH_done (by kernel_rfl) ?_ _
  go_wp2_with fail
  refine bodyPost_ret (v := .agg #[.int .u64 (X : Int), .int .u64 (Y : Int), .int .i64 mn, .int .i64 mx, .bool false]) (results_cell_row rfl _ _ (w.heap.size + 1) 65 _ (0, 0) _ rfl HZ.out Tryz.underlying65 rfl (by kernel_rfl)) rfl ?_
  exact ⟨rfl, HB1.out.trans (BZ.out.mono (by omega))⟩
end Go.Proofs.YtcbjkclajkjicaaGreatDoor
