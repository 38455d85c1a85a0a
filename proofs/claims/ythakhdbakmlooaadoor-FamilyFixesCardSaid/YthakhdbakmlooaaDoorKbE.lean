/-
  A family in words: both sides'.
-/
import Derived.Deep.RegionHeld
import Derived.Test.YthakhdbakmlooaaDoorFrD
import Derived.Test.YthakhdbakmlooaaDoorKbD
import Derived.Deep.WholeRow
import Derived.Laws.ResultCell
namespace Go.Proofs.YthakhdbakmlooaaDoor
set_option linter.unusedSimpArgs false
open Go Go.RowKit Go.Shelf Go.Ev

set_option maxRecDepth 100000 in
set_option maxHeartbeats 4000000 in
theorem boundsOf_any (lo hi : List Int) (mn mx : Int) (A B : Option Addr) (c1 c2 : Nat) (w : World) (ha : Ints w A lo) (hb : Ints w B hi) (h1 : lo.all inR = true) (h2 : hi.all inR = true) :
    Calls Tryd.prog 31 #[.agg #[.slice A lo.length c1, .slice B hi.length c2, .int .i64 mn, .int .i64 mx]] w fun e w' => e = .returned (.agg #[.int .u64 (setN lo : Nat), .int .u64 (setN hi : Nat), .int .i64 mn, .int .i64 mx]) ∧ Below w.heap.size w w' := by
  have LA := Lib.hid (fun w1 (h : Below w.heap.size w w1) => fsetOf_any lo A c1 w1 (ha.over h) h1)
  have LB := Lib.hid (fun w1 (h : Below w.heap.size w w1) => fsetOf_any hi B c2 w1 (hb.over h) h2)
  have hl1 := ha.1
  have hl2 := hb.1
  clear ha hb h1 h2
  generalize setN lo = X at *
  generalize setN hi = Y at *
  generalize lo.length = n1 at *
  generalize hi.length = n2 at *
  go_enter Tryd.func31, Tryd.ntmps31
  go_wp2_with fail
  generalize hW1 : (w.alloc (.cells #[.slice A n1 c1, .slice B n2 c2, .int .i64 mn, .int .i64 mx] 24)).alloc (.cells #[.int .u64 0, .int .u64 0, .int .i64 0, .int .i64 0] 53) = W1
  have HB1 := Lib.hid (show Below w.heap.size w W1.drew by rw [← hW1]; exact (((Below.refl _ w).alloc (Nat.le_refl _) _).alloc (by simp) _).drew)
  have hs1 : W1.heap.size = w.heap.size + 2 := by rw [← hW1]; simp
  have hc1 : W1.drew.heap[w.heap.size]? = some (.cells #[.slice A n1 c1, .slice B n2 c2, .int .i64 mn, .int .i64 mx] 24 (0, 0)) := by rw [← hW1]; exact heap_alloc2_old _ _ _
  have hf1 : W1.drew.heap[w.heap.size + 1]? = some (.cells #[.int .u64 0, .int .u64 0, .int .i64 0, .int .i64 0] 53 (0, 0)) := by rw [← hW1]; exact heap_alloc2_new _ _ _
  have MK : ∀ wx : World, wx.heap[w.heap.size]? = W1.drew.heap[w.heap.size]? → (fun (wx : World) => wx.cell? ⟨w.heap.size, 0, none⟩ = some (.slice A n1 c1) ∧ wx.cell? ⟨w.heap.size, 1, none⟩ = some (.slice B n2 c2) ∧ wx.cell? ⟨w.heap.size, 2, none⟩ = some (.int .i64 mn) ∧ wx.cell? ⟨w.heap.size, 3, none⟩ = some (.int .i64 mx)) wx := fun wx h => by
    rw [hc1] at h
    refine ⟨?_, ?_, ?_, ?_⟩ <;> (simp only [World.cell?, h]; rfl)
  have MKH := Lib.hid MK
  have FC := Lib.hid hf1
  have S0 := MK W1.drew rfl
  clear hW1 hc1 MK hf1
  refine wp_region_held_drew (S := fun (wx : World) => wx.cell? ⟨w.heap.size, 0, none⟩ = some (.slice A n1 c1) ∧ wx.cell? ⟨w.heap.size, 1, none⟩ = some (.slice B n2 c2) ∧ wx.cell? ⟨w.heap.size, 2, none⟩ = some (.int .i64 mn) ∧ wx.cell? ⟨w.heap.size, 3, none⟩ = some (.int .i64 mx)) (by kernel_rfl) S0 (fun hHeld => ?_)
  generalize W1.drew = V at *
  refine wpAnyH_take (i := 0) (oi := ⟨some 3, .fieldAddr 24 (.tmp 1) 0, 0, "bounds.go:44", #[], none⟩) (v := ?vn1k0) rfl (by kernel_rfl) (by kernel_rfl) (by kernel_rfl) (fun _ _ _ h => h) (Or.inl ⟨by kernel_rfl, ?yn1k0⟩) (by assumption) ?rn1k0
  case yn1k0 => intro w hSw; (try dsimp only at hSw); go_simp; try with_reducible rfl
  try simp only [Act.put, List.setIfInBounds_toArray, List.set_cons_zero, List.set_cons_succ]
  refine wpAnyH_take (i := 1) (oi := ⟨some 4, .load 22 (.tmp 3), 22, "bounds.go:44", #[⟨0, .data⟩], none⟩) (v := ?vn2k1) rfl (by kernel_rfl) (by kernel_rfl) (by kernel_rfl) (fun _ _ _ h => h) (Or.inl ⟨by kernel_rfl, ?yn2k1⟩) (by assumption) ?rn2k1
  case yn2k1 => intro w hSw; (try dsimp only at hSw); go_simp; try with_reducible rfl
  try simp only [Act.put, List.setIfInBounds_toArray, List.set_cons_zero, List.set_cons_succ]
  refine wpAnyH_take (i := 3) (oi := ⟨some 6, .fieldAddr 24 (.tmp 1) 1, 0, "bounds.go:44", #[], none⟩) (v := ?vn3k3) rfl (by kernel_rfl) (by kernel_rfl) (by kernel_rfl) (fun _ _ _ h => h) (Or.inl ⟨by kernel_rfl, ?yn3k3⟩) (by assumption) ?rn3k3
  case yn3k3 => intro w hSw; (try dsimp only at hSw); go_simp; try with_reducible rfl
  try simp only [Act.put, List.setIfInBounds_toArray, List.set_cons_zero, List.set_cons_succ]
  refine wpAnyH_take (i := 4) (oi := ⟨some 7, .load 22 (.tmp 6), 22, "bounds.go:44", #[⟨3, .data⟩], none⟩) (v := ?vn4k4) rfl (by kernel_rfl) (by kernel_rfl) (by kernel_rfl) (fun _ _ _ h => h) (Or.inl ⟨by kernel_rfl, ?yn4k4⟩) (by assumption) ?rn4k4
  case yn4k4 => intro w hSw; (try dsimp only at hSw); go_simp; try with_reducible rfl
  try simp only [Act.put, List.setIfInBounds_toArray, List.set_cons_zero, List.set_cons_succ]
  refine wpAnyH_take (i := 6) (oi := ⟨some 9, .fieldAddr 24 (.tmp 1) 2, 0, "bounds.go:44", #[], none⟩) (v := ?vn5k6) rfl (by kernel_rfl) (by kernel_rfl) (by kernel_rfl) (fun _ _ _ h => h) (Or.inl ⟨by kernel_rfl, ?yn5k6⟩) (by assumption) ?rn5k6
  case yn5k6 => intro w hSw; (try dsimp only at hSw); go_simp; try with_reducible rfl
  try simp only [Act.put, List.setIfInBounds_toArray, List.set_cons_zero, List.set_cons_succ]
  refine wpAnyH_take (i := 7) (oi := ⟨some 10, .load 3 (.tmp 9), 3, "bounds.go:44", #[⟨6, .data⟩], none⟩) (v := ?vn6k7) rfl (by kernel_rfl) (by kernel_rfl) (by kernel_rfl) (fun _ _ _ h => h) (Or.inl ⟨by kernel_rfl, ?yn6k7⟩) (by assumption) ?rn6k7
  case yn6k7 => intro w hSw; (try dsimp only at hSw); go_simp; try with_reducible rfl
  try simp only [Act.put, List.setIfInBounds_toArray, List.set_cons_zero, List.set_cons_succ]
  refine wpAnyH_take (i := 8) (oi := ⟨some 11, .fieldAddr 24 (.tmp 1) 3, 0, "bounds.go:44", #[], none⟩) (v := ?vn7k8) rfl (by kernel_rfl) (by kernel_rfl) (by kernel_rfl) (fun _ _ _ h => h) (Or.inl ⟨by kernel_rfl, ?yn7k8⟩) (by assumption) ?rn7k8
  case yn7k8 => intro w hSw; (try dsimp only at hSw); go_simp; try with_reducible rfl
  try simp only [Act.put, List.setIfInBounds_toArray, List.set_cons_zero, List.set_cons_succ]
  refine wpAnyH_take (i := 9) (oi := ⟨some 12, .load 3 (.tmp 11), 3, "bounds.go:44", #[⟨8, .data⟩], none⟩) (v := ?vn8k9) rfl (by kernel_rfl) (by kernel_rfl) (by kernel_rfl) (fun _ _ _ h => h) (Or.inl ⟨by kernel_rfl, ?yn8k9⟩) (by assumption) ?rn8k9
  case yn8k9 => intro w hSw; (try dsimp only at hSw); go_simp; try with_reducible rfl
  try simp only [Act.put, List.setIfInBounds_toArray, List.set_cons_zero, List.set_cons_succ]
  refine wpAnyH_ready (rs := [2]) (by kernel_rfl) (by simp) (AllReadyH.cons (o := ⟨some 5, .call { callee := Callee.value (.func 45), args := #[.tmp 4], argTypes := #[22] }, 51, "bounds.go:44", #[⟨1, .data⟩], none⟩) rfl (fun K hK => ?_) AllReadyH.nil)
  go_simp
  refine (LA.out _ HB1.out).mono ?_
  rintro e x2 ⟨rfl, rfl⟩
  clear hHeld
  refine hK.out _ _ (by assumption) (fun hHeld => ?_)
  clear hK K
  try simp only [Act.put, List.setIfInBounds_toArray, List.set_cons_zero, List.set_cons_succ]
  refine wpAnyH_ready (rs := [5]) (by kernel_rfl) (by simp) (AllReadyH.cons (o := ⟨some 8, .call { callee := Callee.value (.func 45), args := #[.tmp 7], argTypes := #[22] }, 51, "bounds.go:44", #[⟨4, .data⟩, ⟨2, .chain⟩], none⟩) rfl (fun K hK => ?_) AllReadyH.nil)
  go_simp
  refine (LB.out _ HB1.out).mono ?_
  rintro e x5 ⟨rfl, rfl⟩
  clear hHeld
  refine hK.out _ _ (by assumption) (fun hHeld => ?_)
  clear hK K
  try simp only [Act.put, List.setIfInBounds_toArray, List.set_cons_zero, List.set_cons_succ]
  refine wpAnyH_take (i := 10) (oi := ⟨some 13, .build 53 #[(0, .tmp 5), (1, .tmp 8), (2, .tmp 10), (3, .tmp 12)], 53, "bounds.go:44", #[⟨2, .data⟩, ⟨5, .data⟩, ⟨7, .data⟩, ⟨9, .data⟩], none⟩) (v := ?vn9k10) rfl (by kernel_rfl) (by kernel_rfl) (by kernel_rfl) (fun _ _ _ h => h) (Or.inl ⟨by kernel_rfl, ?yn9k10⟩) (by assumption) ?rn9k10
  case yn9k10 => intro w hSw; (try dsimp only at hSw); go_simp; try with_reducible rfl
  try simp only [Act.put, List.setIfInBounds_toArray, List.set_cons_zero, List.set_cons_succ]
  have c0 : x5.cell? ⟨w.heap.size + 1, 0, none⟩ = some (.int .u64 0) := by simp only [World.cell?, FC.out]; rfl
  have c1 : x5.cell? ⟨w.heap.size + 1, 1, none⟩ = some (.int .u64 0) := by simp only [World.cell?, FC.out]; rfl
  have c2 : x5.cell? ⟨w.heap.size + 1, 2, none⟩ = some (.int .i64 0) := by simp only [World.cell?, FC.out]; rfl
  have c3 : x5.cell? ⟨w.heap.size + 1, 3, none⟩ = some (.int .i64 0) := by simp only [World.cell?, FC.out]; rfl
  have f0 : ∀ o, x5.frozen? ⟨w.heap.size + 1, o, none⟩ = false := fun o => by simp [World.frozen?, FC.out]
  clear S0
  refine wpAnyH_ready (rs := [11]) (by kernel_rfl) (by simp) (AllReadyH.cons (o := ⟨none, .store 53 (.tmp 2) (.tmp 13), 0, "bounds.go:44", #[⟨10, .data⟩, ⟨5, .chain⟩, ⟨0, .phase⟩, ⟨1, .phase⟩, ⟨2, .phase⟩, ⟨3, .phase⟩, ⟨4, .phase⟩, ⟨5, .phase⟩, ⟨6, .phase⟩, ⟨7, .phase⟩, ⟨8, .phase⟩, ⟨9, .phase⟩, ⟨10, .phase⟩], none⟩) rfl (fun K hK => ?_) AllReadyH.nil)
  go_simp
  have hz0 := heap_setCell_same _ (w.heap.size + 1) 0 _ _ (.int .u64 (X : Int)) FC.out
  have hz1 := heap_setCell_same _ (w.heap.size + 1) 1 _ _ (.int .u64 (Y : Int)) hz0
  have hz2 := heap_setCell_same _ (w.heap.size + 1) 2 _ _ (.int .i64 mn) hz1
  have hz3 := heap_setCell_same _ (w.heap.size + 1) 3 _ _ (.int .i64 mx) hz2
  have bz : Below (w.heap.size + 1) x5 ((((x5.setCell ⟨w.heap.size + 1, 0, none⟩ (.int .u64 (X : Int))).setCell ⟨w.heap.size + 1, 1, none⟩ (.int .u64 (Y : Int))).setCell ⟨w.heap.size + 1, 2, none⟩ (.int .i64 mn)).setCell ⟨w.heap.size + 1, 3, none⟩ (.int .i64 mx)) := ((((Below.refl _ x5).setCell (p := ⟨w.heap.size + 1, 0, none⟩) (Nat.le_refl _) _).setCell (p := ⟨w.heap.size + 1, 1, none⟩) (Nat.le_refl _) _).setCell (p := ⟨w.heap.size + 1, 2, none⟩) (Nat.le_refl _) _).setCell (p := ⟨w.heap.size + 1, 3, none⟩) (Nat.le_refl _) _
  have S6 := MKH.out _ (bz.block _ (Nat.lt_succ_self _))
  have HZ := Lib.hid hz3
  have BZ := Lib.hid bz
  clear hz0 c0 hz1 c1 hz2 c2 hz3 c3 bz f0 hHeld
  generalize ((((x5.setCell ⟨w.heap.size + 1, 0, none⟩ (.int .u64 (X : Int))).setCell ⟨w.heap.size + 1, 1, none⟩ (.int .u64 (Y : Int))).setCell ⟨w.heap.size + 1, 2, none⟩ (.int .i64 mn)).setCell ⟨w.heap.size + 1, 3, none⟩ (.int .i64 mx)) = W6 at *
  refine hK.out _ _ S6 (fun _ => ?_)
  clear hK K S6
  refine wpAnyH_done (by kernel_rfl) ?_ _
  go_wp2_with fail
  refine bodyPost_ret (v := .agg #[.int .u64 (X : Int), .int .u64 (Y : Int), .int .i64 mn, .int .i64 mx]) (results_cell_row rfl _ _ (w.heap.size + 1) 53 _ (0, 0) _ rfl HZ.out Tryd.underlying53 rfl (by kernel_rfl)) rfl ?_
  exact ⟨rfl, HB1.out.trans (BZ.out.mono (by omega))⟩
set_option maxRecDepth 100000 in
set_option maxHeartbeats 4000000 in
theorem rin_any (lo hi : List Int) (mn mx : Int) (A B : Option Addr) (c1 c2 : Nat) (w : World) (ha : Ints w A lo) (hb : Ints w B hi) (h1 : lo.all inR = true) (h2 : hi.all inR = true) :
    Calls Tryd.prog 34 #[.agg #[.slice A lo.length c1, .slice B hi.length c2, .int .i64 mn, .int .i64 mx]] w fun e w' => e = .returned (.agg #[.int .u64 (setN lo : Nat), .int .u64 (setN hi : Nat), .int .i64 mn, .int .i64 mx, .bool false]) ∧ Below w.heap.size w w' := by
  have LA := Lib.hid (fun w1 (h : Below w.heap.size w w1) => rof_any lo A c1 w1 (ha.over h) h1)
  have LB := Lib.hid (fun w1 (h : Below w.heap.size w w1) => rof_any hi B c2 w1 (hb.over h) h2)
  have hl1 := ha.1
  have hl2 := hb.1
  clear ha hb h1 h2
  generalize setN lo = X at *
  generalize setN hi = Y at *
  generalize lo.length = n1 at *
  generalize hi.length = n2 at *
  go_enter Tryd.func34, Tryd.ntmps34
  go_wp2_with fail
  generalize hW1 : (w.alloc (.cells #[.slice A n1 c1, .slice B n2 c2, .int .i64 mn, .int .i64 mx] 24)).alloc (.cells #[.int .u64 0, .int .u64 0, .int .i64 0, .int .i64 0, .bool false] 58) = W1
  have HB1 := Lib.hid (show Below w.heap.size w W1.drew by rw [← hW1]; exact (((Below.refl _ w).alloc (Nat.le_refl _) _).alloc (by simp) _).drew)
  have hs1 : W1.heap.size = w.heap.size + 2 := by rw [← hW1]; simp
  have hc1 : W1.drew.heap[w.heap.size]? = some (.cells #[.slice A n1 c1, .slice B n2 c2, .int .i64 mn, .int .i64 mx] 24 (0, 0)) := by rw [← hW1]; exact heap_alloc2_old _ _ _
  have hf1 : W1.drew.heap[w.heap.size + 1]? = some (.cells #[.int .u64 0, .int .u64 0, .int .i64 0, .int .i64 0, .bool false] 58 (0, 0)) := by rw [← hW1]; exact heap_alloc2_new _ _ _
  have MK : ∀ wx : World, wx.heap[w.heap.size]? = W1.drew.heap[w.heap.size]? → (fun (wx : World) => wx.cell? ⟨w.heap.size, 0, none⟩ = some (.slice A n1 c1) ∧ wx.cell? ⟨w.heap.size, 1, none⟩ = some (.slice B n2 c2) ∧ wx.cell? ⟨w.heap.size, 2, none⟩ = some (.int .i64 mn) ∧ wx.cell? ⟨w.heap.size, 3, none⟩ = some (.int .i64 mx)) wx := fun wx h => by
    rw [hc1] at h
    refine ⟨?_, ?_, ?_, ?_⟩ <;> (simp only [World.cell?, h]; rfl)
  have MKH := Lib.hid MK
  have FC := Lib.hid hf1
  have S0 := MK W1.drew rfl
  clear hW1 hc1 MK hf1
  refine wp_region_held_drew (S := fun (wx : World) => wx.cell? ⟨w.heap.size, 0, none⟩ = some (.slice A n1 c1) ∧ wx.cell? ⟨w.heap.size, 1, none⟩ = some (.slice B n2 c2) ∧ wx.cell? ⟨w.heap.size, 2, none⟩ = some (.int .i64 mn) ∧ wx.cell? ⟨w.heap.size, 3, none⟩ = some (.int .i64 mx)) (by kernel_rfl) S0 (fun hHeld => ?_)
  generalize W1.drew = V at *
  refine wpAnyH_take (i := 0) (oi := ⟨some 3, .fieldAddr 24 (.tmp 1) 0, 0, "ref.go:63", #[], none⟩) (v := ?vn10k0) rfl (by kernel_rfl) (by kernel_rfl) (by kernel_rfl) (fun _ _ _ h => h) (Or.inl ⟨by kernel_rfl, ?yn10k0⟩) (by assumption) ?rn10k0
  case yn10k0 => intro w hSw; (try dsimp only at hSw); go_simp; try with_reducible rfl
  try simp only [Act.put, List.setIfInBounds_toArray, List.set_cons_zero, List.set_cons_succ]
  refine wpAnyH_take (i := 1) (oi := ⟨some 4, .load 22 (.tmp 3), 22, "ref.go:63", #[⟨0, .data⟩], none⟩) (v := ?vn11k1) rfl (by kernel_rfl) (by kernel_rfl) (by kernel_rfl) (fun _ _ _ h => h) (Or.inl ⟨by kernel_rfl, ?yn11k1⟩) (by assumption) ?rn11k1
  case yn11k1 => intro w hSw; (try dsimp only at hSw); go_simp; try with_reducible rfl
  try simp only [Act.put, List.setIfInBounds_toArray, List.set_cons_zero, List.set_cons_succ]
  refine wpAnyH_take (i := 3) (oi := ⟨some 6, .fieldAddr 24 (.tmp 1) 1, 0, "ref.go:63", #[], none⟩) (v := ?vn12k3) rfl (by kernel_rfl) (by kernel_rfl) (by kernel_rfl) (fun _ _ _ h => h) (Or.inl ⟨by kernel_rfl, ?yn12k3⟩) (by assumption) ?rn12k3
  case yn12k3 => intro w hSw; (try dsimp only at hSw); go_simp; try with_reducible rfl
  try simp only [Act.put, List.setIfInBounds_toArray, List.set_cons_zero, List.set_cons_succ]
  refine wpAnyH_take (i := 4) (oi := ⟨some 7, .load 22 (.tmp 6), 22, "ref.go:63", #[⟨3, .data⟩], none⟩) (v := ?vn13k4) rfl (by kernel_rfl) (by kernel_rfl) (by kernel_rfl) (fun _ _ _ h => h) (Or.inl ⟨by kernel_rfl, ?yn13k4⟩) (by assumption) ?rn13k4
  case yn13k4 => intro w hSw; (try dsimp only at hSw); go_simp; try with_reducible rfl
  try simp only [Act.put, List.setIfInBounds_toArray, List.set_cons_zero, List.set_cons_succ]
  refine wpAnyH_take (i := 6) (oi := ⟨some 9, .fieldAddr 24 (.tmp 1) 2, 0, "ref.go:63", #[], none⟩) (v := ?vn14k6) rfl (by kernel_rfl) (by kernel_rfl) (by kernel_rfl) (fun _ _ _ h => h) (Or.inl ⟨by kernel_rfl, ?yn14k6⟩) (by assumption) ?rn14k6
  case yn14k6 => intro w hSw; (try dsimp only at hSw); go_simp; try with_reducible rfl
  try simp only [Act.put, List.setIfInBounds_toArray, List.set_cons_zero, List.set_cons_succ]
  refine wpAnyH_take (i := 7) (oi := ⟨some 10, .load 3 (.tmp 9), 3, "ref.go:63", #[⟨6, .data⟩], none⟩) (v := ?vn15k7) rfl (by kernel_rfl) (by kernel_rfl) (by kernel_rfl) (fun _ _ _ h => h) (Or.inl ⟨by kernel_rfl, ?yn15k7⟩) (by assumption) ?rn15k7
  case yn15k7 => intro w hSw; (try dsimp only at hSw); go_simp; try with_reducible rfl
  try simp only [Act.put, List.setIfInBounds_toArray, List.set_cons_zero, List.set_cons_succ]
  refine wpAnyH_take (i := 8) (oi := ⟨some 11, .fieldAddr 24 (.tmp 1) 3, 0, "ref.go:63", #[], none⟩) (v := ?vn16k8) rfl (by kernel_rfl) (by kernel_rfl) (by kernel_rfl) (fun _ _ _ h => h) (Or.inl ⟨by kernel_rfl, ?yn16k8⟩) (by assumption) ?rn16k8
  case yn16k8 => intro w hSw; (try dsimp only at hSw); go_simp; try with_reducible rfl
  try simp only [Act.put, List.setIfInBounds_toArray, List.set_cons_zero, List.set_cons_succ]
  refine wpAnyH_take (i := 9) (oi := ⟨some 12, .load 3 (.tmp 11), 3, "ref.go:63", #[⟨8, .data⟩], none⟩) (v := ?vn17k9) rfl (by kernel_rfl) (by kernel_rfl) (by kernel_rfl) (fun _ _ _ h => h) (Or.inl ⟨by kernel_rfl, ?yn17k9⟩) (by assumption) ?rn17k9
  case yn17k9 => intro w hSw; (try dsimp only at hSw); go_simp; try with_reducible rfl
  try simp only [Act.put, List.setIfInBounds_toArray, List.set_cons_zero, List.set_cons_succ]
  refine wpAnyH_ready (rs := [2]) (by kernel_rfl) (by simp) (AllReadyH.cons (o := ⟨some 5, .call { callee := Callee.value (.func 36), args := #[.tmp 4], argTypes := #[22] }, 56, "ref.go:63", #[⟨1, .data⟩], none⟩) rfl (fun K hK => ?_) AllReadyH.nil)
  go_simp
  refine (LA.out _ HB1.out).mono ?_
  rintro e x2 ⟨rfl, rfl⟩
  clear hHeld
  refine hK.out _ _ (by assumption) (fun hHeld => ?_)
  clear hK K
  try simp only [Act.put, List.setIfInBounds_toArray, List.set_cons_zero, List.set_cons_succ]
  refine wpAnyH_ready (rs := [5]) (by kernel_rfl) (by simp) (AllReadyH.cons (o := ⟨some 8, .call { callee := Callee.value (.func 36), args := #[.tmp 7], argTypes := #[22] }, 56, "ref.go:63", #[⟨4, .data⟩, ⟨2, .chain⟩], none⟩) rfl (fun K hK => ?_) AllReadyH.nil)
  go_simp
  refine (LB.out _ HB1.out).mono ?_
  rintro e x5 ⟨rfl, rfl⟩
  clear hHeld
  refine hK.out _ _ (by assumption) (fun hHeld => ?_)
  clear hK K
  try simp only [Act.put, List.setIfInBounds_toArray, List.set_cons_zero, List.set_cons_succ]
  refine wpAnyH_take (i := 10) (oi := ⟨some 13, .build 58 #[(0, .tmp 5), (1, .tmp 8), (2, .tmp 10), (3, .tmp 12)], 58, "ref.go:63", #[⟨2, .data⟩, ⟨5, .data⟩, ⟨7, .data⟩, ⟨9, .data⟩], none⟩) (v := ?vn18k10) rfl (by kernel_rfl) (by kernel_rfl) (by kernel_rfl) (fun _ _ _ h => h) (Or.inl ⟨by kernel_rfl, ?yn18k10⟩) (by assumption) ?rn18k10
  case yn18k10 => intro w hSw; (try dsimp only at hSw); go_simp; try with_reducible rfl
  try simp only [Act.put, List.setIfInBounds_toArray, List.set_cons_zero, List.set_cons_succ]
  have c0 : x5.cell? ⟨w.heap.size + 1, 0, none⟩ = some (.int .u64 0) := by simp only [World.cell?, FC.out]; rfl
  have c1 : x5.cell? ⟨w.heap.size + 1, 1, none⟩ = some (.int .u64 0) := by simp only [World.cell?, FC.out]; rfl
  have c2 : x5.cell? ⟨w.heap.size + 1, 2, none⟩ = some (.int .i64 0) := by simp only [World.cell?, FC.out]; rfl
  have c3 : x5.cell? ⟨w.heap.size + 1, 3, none⟩ = some (.int .i64 0) := by simp only [World.cell?, FC.out]; rfl
  have c4 : x5.cell? ⟨w.heap.size + 1, 4, none⟩ = some (.bool false) := by simp only [World.cell?, FC.out]; rfl
  have f0 : ∀ o, x5.frozen? ⟨w.heap.size + 1, o, none⟩ = false := fun o => by simp [World.frozen?, FC.out]
  clear S0
  refine wpAnyH_ready (rs := [11]) (by kernel_rfl) (by simp) (AllReadyH.cons (o := ⟨none, .store 58 (.tmp 2) (.tmp 13), 0, "ref.go:63", #[⟨10, .data⟩, ⟨5, .chain⟩, ⟨0, .phase⟩, ⟨1, .phase⟩, ⟨2, .phase⟩, ⟨3, .phase⟩, ⟨4, .phase⟩, ⟨5, .phase⟩, ⟨6, .phase⟩, ⟨7, .phase⟩, ⟨8, .phase⟩, ⟨9, .phase⟩, ⟨10, .phase⟩], none⟩) rfl (fun K hK => ?_) AllReadyH.nil)
  go_simp
  have hz0 := heap_setCell_same _ (w.heap.size + 1) 0 _ _ (.int .u64 (X : Int)) FC.out
  have hz1 := heap_setCell_same _ (w.heap.size + 1) 1 _ _ (.int .u64 (Y : Int)) hz0
  have hz2 := heap_setCell_same _ (w.heap.size + 1) 2 _ _ (.int .i64 mn) hz1
  have hz3 := heap_setCell_same _ (w.heap.size + 1) 3 _ _ (.int .i64 mx) hz2
  have hz4 := heap_setCell_same _ (w.heap.size + 1) 4 _ _ (.bool false) hz3
  have bz : Below (w.heap.size + 1) x5 (((((x5.setCell ⟨w.heap.size + 1, 0, none⟩ (.int .u64 (X : Int))).setCell ⟨w.heap.size + 1, 1, none⟩ (.int .u64 (Y : Int))).setCell ⟨w.heap.size + 1, 2, none⟩ (.int .i64 mn)).setCell ⟨w.heap.size + 1, 3, none⟩ (.int .i64 mx)).setCell ⟨w.heap.size + 1, 4, none⟩ (.bool false)) := (((((Below.refl _ x5).setCell (p := ⟨w.heap.size + 1, 0, none⟩) (Nat.le_refl _) _).setCell (p := ⟨w.heap.size + 1, 1, none⟩) (Nat.le_refl _) _).setCell (p := ⟨w.heap.size + 1, 2, none⟩) (Nat.le_refl _) _).setCell (p := ⟨w.heap.size + 1, 3, none⟩) (Nat.le_refl _) _).setCell (p := ⟨w.heap.size + 1, 4, none⟩) (Nat.le_refl _) _
  have S6 := MKH.out _ (bz.block _ (Nat.lt_succ_self _))
  have HZ := Lib.hid hz4
  have BZ := Lib.hid bz
  clear hz0 c0 hz1 c1 hz2 c2 hz3 c3 hz4 c4 bz f0 hHeld
  generalize (((((x5.setCell ⟨w.heap.size + 1, 0, none⟩ (.int .u64 (X : Int))).setCell ⟨w.heap.size + 1, 1, none⟩ (.int .u64 (Y : Int))).setCell ⟨w.heap.size + 1, 2, none⟩ (.int .i64 mn)).setCell ⟨w.heap.size + 1, 3, none⟩ (.int .i64 mx)).setCell ⟨w.heap.size + 1, 4, none⟩ (.bool false)) = W6 at *
  refine hK.out _ _ S6 (fun _ => ?_)
  clear hK K S6
  refine wpAnyH_done (by kernel_rfl) ?_ _
  go_wp2_with fail
  refine bodyPost_ret (v := .agg #[.int .u64 (X : Int), .int .u64 (Y : Int), .int .i64 mn, .int .i64 mx, .bool false]) (results_cell_row rfl _ _ (w.heap.size + 1) 58 _ (0, 0) _ rfl HZ.out Tryd.underlying58 rfl (by kernel_rfl)) rfl ?_
  exact ⟨rfl, HB1.out.trans (BZ.out.mono (by omega))⟩
end Go.Proofs.YthakhdbakmlooaaDoor

/-
  Bounds brought to normal form: the program's.
-/
namespace Go.Proofs.YthakhdbakmlooaaDoor
set_option linter.unusedSimpArgs false
open Go Go.RowKit Go.Shelf Go.Ev

def nmn (lo : Nat) (mn : Int) : Int := max mn (ones lo)
def nmx (hi : Nat) (mx : Int) : Int := min mx (ones hi)
def okN (lo hi : Nat) (mn mx : Int) : Bool := decide (sub64 lo hi = 0) && decide (nmn lo mn ≤ nmx hi mx)
def nlo (lo hi : Nat) (mn : Int) : Nat := if nmn lo mn = ones hi then hi else lo
def nhi (lo hi : Nat) (mn mx : Int) : Nat := if nmn lo mn = ones hi then hi else if nmx hi mx = ones lo then lo else hi
end Go.Proofs.YthakhdbakmlooaaDoor

/-
  The normal form as a family: the program's.
-/
namespace Go.Proofs.YthakhdbakmlooaaDoor
set_option linter.unusedSimpArgs false
open Go Go.RowKit Go.Shelf Go.Ev

theorem famCells_facts {w : World} {B : Nat} (h : famCells w B) : w.cell? ⟨B, 0, none⟩ = some (.slice none 0 0) ∧ w.cell? ⟨B, 1, none⟩ = some (.slice none 0 0) ∧ w.cell? ⟨B, 2, none⟩ = some (.int .i64 0) ∧ w.cell? ⟨B, 3, none⟩ = some (.int .i64 0) ∧ ∀ o, w.frozen? ⟨B, o, none⟩ = false := by
  unfold famCells at h
  refine ⟨?_, ?_, ?_, ?_, fun o => by simp [World.frozen?, h]⟩ <;> (simp only [World.cell?, h]; rfl)
/-- a family handed out: two lists of a word's numbers, and two sizes -/
def FamOut (W : World) (base lo hi : Nat) (mn mx : Int) (v : Value) : Prop := ∃ v1 v2, v = .agg #[v1, v2, .int .i64 mn, .int .i64 mx] ∧ BitRow W base v1 lo ∧ BitRow W base v2 hi ∧ (∀ b, v1.ownBlock = some b → v2.ownBlock ≠ some b)
end Go.Proofs.YthakhdbakmlooaaDoor

/-
  Plain facts of words, their lists and normal forms.
-/
namespace Go.Proofs.YthakhdbakmlooaaDoor
open Go Go.RowKit Go.Ev

/-- a word's numbers as a list -/
def bi (x : Nat) : List Int := (bitsOf 64 0 x).map fun (t : Nat) => (t : Int)
theorem bits_mem {x : Nat} (hx : x < 18446744073709551616) (t : Nat) : t ∈ bitsOf 64 0 x ↔ t < 64 ∧ x.testBit t = true := by
  rw [← bl_all hx]
  simp [bl]
theorem bi_mem {x : Nat} (hx : x < 18446744073709551616) (v : Int) : v ∈ bi x ↔ inR v = true ∧ x.testBit v.toNat = true := by
  unfold bi
  rw [List.mem_map]
  constructor
  · rintro ⟨t, ht, rfl⟩
    rw [bits_mem hx] at ht
    refine ⟨?_, by simpa using ht.2⟩
    simp only [inR, Bool.and_eq_true, decide_eq_true_eq]
    omega
  · rintro ⟨h1, h2⟩
    simp only [inR, Bool.and_eq_true, decide_eq_true_eq] at h1
    exact ⟨v.toNat, (bits_mem hx _).2 ⟨by omega, h2⟩, by omega⟩
theorem bi_pair {x : Nat} (hx : x < 18446744073709551616) : (bi x).Pairwise (· < ·) := by
  unfold bi
  rw [← bl_all hx, List.pairwise_map]
  unfold bl
  refine List.Pairwise.imp ?_ (List.pairwise_lt_range.filter _)
  intro a b h
  omega
theorem bi_len {x : Nat} (hx : x < 18446744073709551616) : (bi x).length = ones x := by
  unfold bi
  rw [List.length_map]
  exact (ones_len 64 0 x hx).symm
theorem asc_of_pair : ∀ {l : List Int}, l.Pairwise (· < ·) → ascB l = true
  | [], _ => rfl
  | [_], _ => rfl
  | x :: y :: r, h => by
    have h1 := List.pairwise_cons.1 h
    rw [ascB, Bool.and_eq_true]
    exact ⟨decide_eq_true (h1.1 y (by simp)), asc_of_pair h1.2⟩
theorem bi_all {x : Nat} (hx : x < 18446744073709551616) : (bi x).all inR = true := by
  rw [List.all_eq_true]
  exact fun v hv => ((bi_mem hx v).1 hv).1
theorem bi_elems {x : Nat} (hx : x < 18446744073709551616) : elemsB (bi x) = true := by
  unfold elemsB
  rw [asc_of_pair (bi_pair hx), bi_all hx]
  rfl
theorem setN_bi {x : Nat} (hx : x < 18446744073709551616) : setN (bi x) = x := by
  refine Nat.eq_of_testBit_eq fun t => ?_
  rw [setN_test (bi_all hx), Bool.eq_iff_iff, List.contains_iff_mem, bi_mem hx]
  simp only [inR, Bool.and_eq_true, decide_eq_true_eq, Int.toNat_natCast]
  constructor
  · exact fun h => h.2
  · intro h
    refine ⟨⟨by omega, ?_⟩, h⟩
    have : t < 64 := by
      refine Nat.lt_of_not_le fun hn => ?_
      rw [Nat.testBit_lt_two_pow (Nat.lt_of_lt_of_le hx (Nat.pow_le_pow_right (n := 2) (by decide) hn))] at h
      cases h
    omega
theorem sub_bit {a b : Nat} (hb : b < 18446744073709551616) (t : Nat) : (sub64 a b).testBit t = (a.testBit t && (decide (t < 64) && !b.testBit t)) := by
  have e : 18446744073709551615 - b = 2 ^ 64 - (b + 1) := by
    have : (2 : Nat) ^ 64 = 18446744073709551616 := by decide
    omega
  unfold sub64
  rw [Nat.testBit_and, e, Nat.testBit_two_pow_sub_succ (show b < 2 ^ 64 from hb)]
theorem sub_zero {a b : Nat} (ha : a < 18446744073709551616) (hb : b < 18446744073709551616) : sub64 a b = 0 ↔ ∀ t, a.testBit t = true → b.testBit t = true := by
  constructor
  · intro h t ht
    have h1 := sub_bit (a := a) hb t
    rw [h, Nat.zero_testBit, ht] at h1
    have h2 : t < 64 := by
      refine Nat.lt_of_not_le fun hn => ?_
      rw [Nat.testBit_lt_two_pow (Nat.lt_of_lt_of_le ha (Nat.pow_le_pow_right (n := 2) (by decide) hn))] at ht
      cases ht
    rw [decide_eq_true h2] at h1
    cases hb2 : b.testBit t
    · rw [hb2] at h1; cases h1
    · rfl
  · intro h
    refine Nat.eq_of_testBit_eq fun t => ?_
    rw [sub_bit hb, Nat.zero_testBit]
    cases ha2 : a.testBit t
    · rfl
    · rw [h t ha2]; simp
theorem ones_eq {x : Nat} (hx : x < 18446744073709551616) : ones x = (List.range 64).countP fun t => x.testBit t := by
  rw [show ones x = (bitsOf 64 0 x).length from ones_len 64 0 x hx, ← bl_all hx, List.countP_eq_length_filter]
  rfl
theorem countP_le {p q : Nat → Bool} : ∀ (l : List Nat), (∀ t, p t = true → q t = true) → l.countP p ≤ l.countP q
  | [], _ => by simp
  | x :: l, h => by
    have ih := countP_le l h
    rw [List.countP_cons, List.countP_cons]
    cases hp : p x
    · simp only [Bool.false_eq_true, if_false]; omega
    · rw [h x hp]; simp only [if_true]; omega
theorem countP_same {p q : Nat → Bool} : ∀ (l : List Nat), (∀ t, p t = true → q t = true) → l.countP q ≤ l.countP p → ∀ t ∈ l, q t = true → p t = true
  | [], _, _, t, ht, _ => by cases ht
  | x :: l, h, hc, t, ht, hq => by
    have ih := countP_same l h
    have hle := countP_le l h
    rw [List.countP_cons, List.countP_cons] at hc
    cases hpx : p x with
    | true =>
      rw [hpx, h x hpx] at hc
      simp only [if_true] at hc
      rcases List.mem_cons.1 ht with rfl | ht
      · exact hpx
      · exact ih (by omega) t ht hq
    | false =>
      rw [hpx] at hc
      cases hqx : q x with
      | true => rw [hqx] at hc; simp only [if_true, Bool.false_eq_true, if_false] at hc; omega
      | false =>
        rw [hqx] at hc
        simp only [Bool.false_eq_true, if_false] at hc
        rcases List.mem_cons.1 ht with rfl | ht
        · rw [hqx] at hq; cases hq
        · exact ih (by omega) t ht hq
theorem ones_mono {a b : Nat} (ha : a < 18446744073709551616) (hb : b < 18446744073709551616) (h : sub64 a b = 0) : ones a ≤ ones b := by
  rw [ones_eq ha, ones_eq hb]
  exact countP_le _ ((sub_zero ha hb).1 h)
theorem ones_same {a b : Nat} (ha : a < 18446744073709551616) (hb : b < 18446744073709551616) (h : sub64 a b = 0) (hc : ones b ≤ ones a) : a = b := by
  rw [ones_eq ha, ones_eq hb] at hc
  have h1 := (sub_zero ha hb).1 h
  have h2 := countP_same _ h1 hc
  refine Nat.eq_of_testBit_eq fun t => ?_
  by_cases ht : t < 64
  · have h3 := h1 t
    have h4 := h2 t (List.mem_range.2 ht)
    cases p : a.testBit t <;> cases q : b.testBit t <;> simp_all
  · rw [Nat.testBit_lt_two_pow (Nat.lt_of_lt_of_le ha (Nat.pow_le_pow_right (n := 2) (by decide) (show 64 ≤ t by omega))), Nat.testBit_lt_two_pow (Nat.lt_of_lt_of_le hb (Nat.pow_le_pow_right (n := 2) (by decide) (show 64 ≤ t by omega)))]
theorem ones_le64 {x : Nat} (hx : x < 18446744073709551616) : ones x ≤ 64 := by
  rw [ones_eq hx]
  have := List.countP_le_length (p := fun t => x.testBit t) (l := List.range 64)
  simpa using this
theorem sub_self {a : Nat} (ha : a < 18446744073709551616) : sub64 a a = 0 := (sub_zero ha ha).2 fun _ h => h
theorem sub_trans {a b c : Nat} (ha : a < 18446744073709551616) (hb : b < 18446744073709551616) (hc : c < 18446744073709551616) (h : sub64 a b = 0) (k : sub64 b c = 0) : sub64 a c = 0 :=
  (sub_zero ha hc).2 fun t ht => (sub_zero hb hc).1 k t ((sub_zero ha hb).1 h t ht)
theorem okN_parts {L H : Nat} {mn mx : Int} : okN L H mn mx = true ↔ sub64 L H = 0 ∧ nmn L mn ≤ nmx H mx := by
  unfold okN
  rw [Bool.and_eq_true, decide_eq_true_eq, decide_eq_true_eq]
theorem again {L H : Nat} {mn mx : Int} (hL : L < 18446744073709551616) (hH : H < 18446744073709551616) (hk : okN L H mn mx = true) :
    okN (nlo L H mn) (nhi L H mn mx) (nmn L mn) (nmx H mx) = true ∧ nmn (nlo L H mn) (nmn L mn) = nmn L mn ∧ nmx (nhi L H mn mx) (nmx H mx) = nmx H mx ∧
    nlo (nlo L H mn) (nhi L H mn mx) (nmn L mn) = nlo L H mn ∧ nhi (nlo L H mn) (nhi L H mn mx) (nmn L mn) (nmx H mx) = nhi L H mn mx := by
  obtain ⟨k1, k2⟩ := okN_parts.1 hk
  have o0 := ones_mono hL hH k1
  by_cases c1 : nmn L mn = ones H
  · have e1 : nlo L H mn = H := if_pos c1
    have e2 : nhi L H mn mx = H := if_pos c1
    rw [e1, e2, okN_parts]
    have g1 : nmn H (nmn L mn) = nmn L mn := by unfold nmn at *; omega
    have g2 : nmx H (nmx H mx) = nmx H mx := by unfold nmx at *; omega
    refine ⟨⟨sub_self hH, by rw [g1, g2]; exact k2⟩, g1, g2, ?_, ?_⟩
    · unfold nlo; split <;> rfl
    · unfold nhi; split
      · rfl
      · split <;> rfl
  · by_cases c2 : nmx H mx = ones L
    · have e1 : nlo L H mn = L := if_neg c1
      have e2 : nhi L H mn mx = L := by unfold nhi; rw [if_neg c1, if_pos c2]
      rw [e1, e2, okN_parts]
      have g1 : nmn L (nmn L mn) = nmn L mn := by unfold nmn at *; omega
      have g2 : nmx L (nmx H mx) = nmx H mx := by unfold nmx at *; omega
      refine ⟨⟨sub_self hL, by rw [g1, g2]; exact k2⟩, g1, g2, ?_, ?_⟩
      · unfold nlo; split <;> rfl
      · unfold nhi; split
        · rfl
        · split <;> rfl
    · have e1 : nlo L H mn = L := if_neg c1
      have e2 : nhi L H mn mx = H := by unfold nhi; rw [if_neg c1, if_neg c2]
      rw [e1, e2, okN_parts]
      have g1 : nmn L (nmn L mn) = nmn L mn := by unfold nmn at *; omega
      have g2 : nmx H (nmx H mx) = nmx H mx := by unfold nmx at *; omega
      refine ⟨⟨k1, by rw [g1, g2]; exact k2⟩, g1, g2, ?_, ?_⟩
      · unfold nlo; rw [g1, if_neg c1]
      · unfold nhi; rw [g1, g2, if_neg c1, if_neg c2]
theorem nlo_lt {L H : Nat} {mn : Int} (hL : L < 18446744073709551616) (hH : H < 18446744073709551616) : nlo L H mn < 18446744073709551616 := by
  unfold nlo; split <;> assumption
theorem nhi_lt {L H : Nat} {mn mx : Int} (hL : L < 18446744073709551616) (hH : H < 18446744073709551616) : nhi L H mn mx < 18446744073709551616 := by
  unfold nhi; split
  · assumption
  · split <;> assumption
end Go.Proofs.YthakhdbakmlooaaDoor
