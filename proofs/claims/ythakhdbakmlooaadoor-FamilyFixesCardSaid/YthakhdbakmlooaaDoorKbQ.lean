/-
  Same: of two families that are the same.
-/
import Derived.Test.YthakhdbakmlooaaDoorFzD
import Derived.StillTailTactics
import Derived.Test.YthakhdbakmlooaaDoorFnP
import Derived.Test.YthakhdbakmlooaaDoorKbP
namespace Go.Proofs.YthakhdbakmlooaaDoor
set_option linter.unusedSimpArgs false
open Go Go.RowKit Go.Shelf Go.Ev

set_option maxRecDepth 100000 in
set_option maxHeartbeats 8000000 in
theorem Same_true (lo hi : List Int) (mn mx : Int) (A B A' B' : Option Addr) (c1 c2 c1' c2' : Nat) (w : World) (ha : Ints w A lo) (hb : Ints w B hi) (ha' : Ints w A' lo) (hb' : Ints w B' hi) (hV : validFB lo hi mn mx = true) :
    Calls Tryd.prog 11 #[.agg #[.slice A lo.length c1, .slice B hi.length c2, .int .i64 mn, .int .i64 mx], .agg #[.slice A' lo.length c1', .slice B' hi.length c2', .int .i64 mn, .int .i64 mx]] w fun e w' => e = .returned (.bool true) ∧ Below w.heap.size w w' := by
  have VP := Lib.hid (fun w1 (h : Below w.heap.size w w1) => FValid_r_any lo hi mn mx A B c1 c2 w1 (ha.over h) (hb.over h))
  have VQ := Lib.hid (fun w1 (h : Below w.heap.size w w1) => FValid_r_any lo hi mn mx A' B' c1' c2' w1 (ha'.over h) (hb'.over h))
  rw [hV] at VP VQ
  obtain ⟨hr1, hr2⟩ : lo.all inR = true ∧ hi.all inR = true := by
    unfold validFB elemsB at hV
    simp only [Bool.and_eq_true] at hV
    exact ⟨hV.1.1.1.2, hV.1.1.2.2⟩
  have S1 := Lib.hid (fun w1 (h : Below w.heap.size w w1) => rof_any lo A c1 w1 (ha.over h) hr1)
  have S2 := Lib.hid (fun w1 (h : Below w.heap.size w w1) => rof_any hi B c2 w1 (hb.over h) hr2)
  have T1 := Lib.hid (fun w1 (h : Below w.heap.size w w1) => rof_any lo A' c1' w1 (ha'.over h) hr1)
  have T2 := Lib.hid (fun w1 (h : Below w.heap.size w w1) => rof_any hi B' c2' w1 (hb'.over h) hr2)
  have hl1 := ha.1
  have hl2 := hb.1
  clear ha hb ha' hb' hV hr1 hr2
  generalize lo.length = n1 at *
  generalize hi.length = n2 at *
  generalize setN lo = L at *
  generalize setN hi = H at *
  have BA := Lib.hid (show Below w.heap.size w ((w.alloc (.cells #[.slice A n1 c1, .slice B n2 c2, .int .i64 mn, .int .i64 mx] 24)).alloc (.cells #[.slice A' n1 c1', .slice B' n2 c2', .int .i64 mn, .int .i64 mx] 24)) from ((Below.refl _ w).alloc (Nat.le_refl _) _).alloc (by simp) _)
  have BX := Lib.hid (show ∀ wx : World, Below (w.heap.size + 2) ((w.alloc (.cells #[.slice A n1 c1, .slice B n2 c2, .int .i64 mn, .int .i64 mx] 24)).alloc (.cells #[.slice A' n1 c1', .slice B' n2 c2', .int .i64 mn, .int .i64 mx] 24)) wx → wx.cell? ⟨w.heap.size, 0, none⟩ = some (.slice A n1 c1) ∧ wx.cell? ⟨w.heap.size, 1, none⟩ = some (.slice B n2 c2) ∧ wx.cell? ⟨w.heap.size, 2, none⟩ = some (.int .i64 mn) ∧ wx.cell? ⟨w.heap.size, 3, none⟩ = some (.int .i64 mx) ∧ wx.cell? ⟨w.heap.size + 1, 0, none⟩ = some (.slice A' n1 c1') ∧ wx.cell? ⟨w.heap.size + 1, 1, none⟩ = some (.slice B' n2 c2') ∧ wx.cell? ⟨w.heap.size + 1, 2, none⟩ = some (.int .i64 mn) ∧ wx.cell? ⟨w.heap.size + 1, 3, none⟩ = some (.int .i64 mx) from fun wx h => by
    have hh := (h.block w.heap.size (by omega)).trans (heap_alloc2_old w (.cells #[.slice A n1 c1, .slice B n2 c2, .int .i64 mn, .int .i64 mx] 24) _)
    have hk := (h.block (w.heap.size + 1) (by omega)).trans (heap_alloc2_new w _ (.cells #[.slice A' n1 c1', .slice B' n2 c2', .int .i64 mn, .int .i64 mx] 24))
    refine ⟨?_, ?_, ?_, ?_, ?_, ?_, ?_, ?_⟩ <;> (simp only [World.cell?, hh, hk]; rfl))
  have hz : w.heap.size + 2 ≤ ((w.alloc (.cells #[.slice A n1 c1, .slice B n2 c2, .int .i64 mn, .int .i64 mx] 24)).alloc (.cells #[.slice A' n1 c1', .slice B' n2 c2', .int .i64 mn, .int .i64 mx] 24)).heap.size := by simp
  go_enter Tryd.func11, Tryd.ntmps11
  go_wp2_with fail
  generalize ((w.alloc (.cells #[.slice A n1 c1, .slice B n2 c2, .int .i64 mn, .int .i64 mx] 24)).alloc (.cells #[.slice A' n1 c1', .slice B' n2 c2', .int .i64 mn, .int .i64 mx] 24)) = W at *
  have S0 : (fun wx : World => wx.cell? ⟨w.heap.size, 0, none⟩ = some (.slice A n1 c1) ∧ wx.cell? ⟨w.heap.size, 1, none⟩ = some (.slice B n2 c2) ∧ wx.cell? ⟨w.heap.size, 2, none⟩ = some (.int .i64 mn) ∧ wx.cell? ⟨w.heap.size, 3, none⟩ = some (.int .i64 mx) ∧ wx.cell? ⟨w.heap.size + 1, 0, none⟩ = some (.slice A' n1 c1') ∧ wx.cell? ⟨w.heap.size + 1, 1, none⟩ = some (.slice B' n2 c2') ∧ wx.cell? ⟨w.heap.size + 1, 2, none⟩ = some (.int .i64 mn) ∧ wx.cell? ⟨w.heap.size + 1, 3, none⟩ = some (.int .i64 mx)) W.drew := BX.out _ (Below.refl _ W).drew
  have BV := Lib.hid (show Below (w.heap.size + 2) W W.drew from (Below.refl _ W).drew)
  replace BA := Lib.hid (show Below w.heap.size w W.drew from BA.out.drew)
  have hvs : w.heap.size + 2 ≤ W.drew.heap.size := hz
  refine wp_region_held_drew (S := fun (wx : World) => wx.cell? ⟨w.heap.size, 0, none⟩ = some (.slice A n1 c1) ∧ wx.cell? ⟨w.heap.size, 1, none⟩ = some (.slice B n2 c2) ∧ wx.cell? ⟨w.heap.size, 2, none⟩ = some (.int .i64 mn) ∧ wx.cell? ⟨w.heap.size, 3, none⟩ = some (.int .i64 mx) ∧ wx.cell? ⟨w.heap.size + 1, 0, none⟩ = some (.slice A' n1 c1') ∧ wx.cell? ⟨w.heap.size + 1, 1, none⟩ = some (.slice B' n2 c2') ∧ wx.cell? ⟨w.heap.size + 1, 2, none⟩ = some (.int .i64 mn) ∧ wx.cell? ⟨w.heap.size + 1, 3, none⟩ = some (.int .i64 mx)) (by kernel_rfl) S0 (fun hHeld => ?_)
  clear S0 hz
  generalize W.drew = V at *
  refine wpAnyH_take (i := 0) (oi := ⟨some 5, .load 24 (.tmp 2), 24, "ref.go:358", #[], none⟩) (v := ?vn1k0) rfl (by kernel_rfl) (by kernel_rfl) (by kernel_rfl) (fun _ _ _ h => h) (Or.inl ⟨by kernel_rfl, ?yn1k0⟩) (by assumption) ?rn1k0
  case yn1k0 => intro w hSw; (try dsimp only at hSw); go_simp; try with_reducible rfl
  try simp only [Act.put, List.setIfInBounds_toArray, List.set_cons_zero, List.set_cons_succ]
  refine wpAnyH_ready (rs := [1]) (by kernel_rfl) (by simp) (AllReadyH.cons (o := ⟨some 6, .call { callee := Callee.value (.func 16), args := #[.tmp 5], argTypes := #[24] }, 4, "ref.go:358", #[⟨0, .data⟩], none⟩) rfl (fun K hK => ?_) AllReadyH.nil)
  go_simp
  refine (VP.out _ BA.out).mono ?_
  rintro e y0 ⟨rfl, hb⟩
  replace BV := Lib.hid (BV.out.trans (hb.mono hvs))
  replace BA := Lib.hid (BA.out.trans (hb.mono BA.out.size))
  replace hvs : w.heap.size + 2 ≤ y0.heap.size := Nat.le_trans hvs hb.size
  clear hb hHeld
  refine hK.out _ _ (BX.out _ BV.out) (fun hHeld => ?_)
  clear hK K
  try simp only [Act.put, List.setIfInBounds_toArray, List.set_cons_zero, List.set_cons_succ]
  refine wpAnyH_take (i := 2) (oi := ⟨some 7, .move (.tmp 6), 4, "ref.go:358", #[⟨1, .data⟩, ⟨1, .chain⟩], none⟩) (v := ?vn2k2) rfl (by kernel_rfl) (by kernel_rfl) (by kernel_rfl) (fun _ _ _ h => h) (Or.inl ⟨by kernel_rfl, ?yn2k2⟩) (by assumption) ?rn2k2
  case yn2k2 => intro w hSw; (try dsimp only at hSw); go_simp; try with_reducible rfl
  try simp only [Act.put, List.setIfInBounds_toArray, List.set_cons_zero, List.set_cons_succ]
  refine wpAnyH_take (i := 3) (oi := ⟨some 8, .load 24 (.tmp 3), 24, "ref.go:358", #[⟨2, .guard⟩], some (2, true)⟩) (v := ?vn3k3) rfl (by kernel_rfl) (by kernel_rfl) (by kernel_rfl) (fun _ _ _ h => h) (Or.inl ⟨by kernel_rfl, ?yn3k3⟩) (by assumption) ?rn3k3
  case yn3k3 => intro w hSw; (try dsimp only at hSw); go_simp; try with_reducible rfl
  try simp only [Act.put, List.setIfInBounds_toArray, List.set_cons_zero, List.set_cons_succ]
  refine wpAnyH_ready (rs := [4]) (by kernel_rfl) (by simp) (AllReadyH.cons (o := ⟨some 9, .call { callee := Callee.value (.func 16), args := #[.tmp 8], argTypes := #[24] }, 4, "ref.go:358", #[⟨3, .data⟩, ⟨2, .chain⟩, ⟨2, .guard⟩], some (2, true)⟩) rfl (fun K hK => ?_) AllReadyH.nil)
  go_simp
  refine (VQ.out _ BA.out).mono ?_
  rintro e y1 ⟨rfl, hb⟩
  replace BV := Lib.hid (BV.out.trans (hb.mono hvs))
  replace BA := Lib.hid (BA.out.trans (hb.mono BA.out.size))
  replace hvs : w.heap.size + 2 ≤ y1.heap.size := Nat.le_trans hvs hb.size
  clear hb hHeld
  refine hK.out _ _ (BX.out _ BV.out) (fun hHeld => ?_)
  clear hK K
  try simp only [Act.put, List.setIfInBounds_toArray, List.set_cons_zero, List.set_cons_succ]
  refine wpAnyH_take (i := 5) (oi := ⟨some 10, .pick (.tmp 7) (.tmp 9) (.const (Value.bool false)), 4, "ref.go:358", #[⟨2, .data⟩, ⟨4, .data⟩], none⟩) (v := ?vn4k5) rfl (by kernel_rfl) (by kernel_rfl) (by kernel_rfl) (fun _ _ _ h => h) (Or.inl ⟨by kernel_rfl, ?yn4k5⟩) (by assumption) ?rn4k5
  case yn4k5 => intro w hSw; (try dsimp only at hSw); go_simp; try with_reducible rfl
  try simp only [Act.put, List.setIfInBounds_toArray, List.set_cons_zero, List.set_cons_succ]
  refine wpAnyH_take (i := 6) (oi := ⟨some 11, .move (.tmp 10), 4, "ref.go:358", #[⟨5, .data⟩, ⟨4, .chain⟩], none⟩) (v := ?vn5k6) rfl (by kernel_rfl) (by kernel_rfl) (by kernel_rfl) (fun _ _ _ h => h) (Or.inl ⟨by kernel_rfl, ?yn5k6⟩) (by assumption) ?rn5k6
  case yn5k6 => intro w hSw; (try dsimp only at hSw); go_simp; try with_reducible rfl
  try simp only [Act.put, List.setIfInBounds_toArray, List.set_cons_zero, List.set_cons_succ]
  refine wpAnyH_take (i := 7) (oi := ⟨some 12, .fieldAddr 24 (.tmp 2) 0, 0, "ref.go:358", #[⟨6, .guard⟩], some (6, true)⟩) (v := ?vn6k7) rfl (by kernel_rfl) (by kernel_rfl) (by kernel_rfl) (fun _ _ _ h => h) (Or.inl ⟨by kernel_rfl, ?yn6k7⟩) (by assumption) ?rn6k7
  case yn6k7 => intro w hSw; (try dsimp only at hSw); go_simp; try with_reducible rfl
  try simp only [Act.put, List.setIfInBounds_toArray, List.set_cons_zero, List.set_cons_succ]
  refine wpAnyH_take (i := 8) (oi := ⟨some 13, .load 22 (.tmp 12), 22, "ref.go:358", #[⟨7, .data⟩, ⟨6, .guard⟩], some (6, true)⟩) (v := ?vn7k8) rfl (by kernel_rfl) (by kernel_rfl) (by kernel_rfl) (fun _ _ _ h => h) (Or.inl ⟨by kernel_rfl, ?yn7k8⟩) (by assumption) ?rn7k8
  case yn7k8 => intro w hSw; (try dsimp only at hSw); go_simp; try with_reducible rfl
  try simp only [Act.put, List.setIfInBounds_toArray, List.set_cons_zero, List.set_cons_succ]
  refine wpAnyH_take (i := 10) (oi := ⟨some 15, .fieldAddr 24 (.tmp 3) 0, 0, "ref.go:358", #[⟨6, .guard⟩], some (6, true)⟩) (v := ?vn8k10) rfl (by kernel_rfl) (by kernel_rfl) (by kernel_rfl) (fun _ _ _ h => h) (Or.inl ⟨by kernel_rfl, ?yn8k10⟩) (by assumption) ?rn8k10
  case yn8k10 => intro w hSw; (try dsimp only at hSw); go_simp; try with_reducible rfl
  try simp only [Act.put, List.setIfInBounds_toArray, List.set_cons_zero, List.set_cons_succ]
  refine wpAnyH_take (i := 11) (oi := ⟨some 16, .load 22 (.tmp 15), 22, "ref.go:358", #[⟨10, .data⟩, ⟨6, .guard⟩], some (6, true)⟩) (v := ?vn9k11) rfl (by kernel_rfl) (by kernel_rfl) (by kernel_rfl) (fun _ _ _ h => h) (Or.inl ⟨by kernel_rfl, ?yn9k11⟩) (by assumption) ?rn9k11
  case yn9k11 => intro w hSw; (try dsimp only at hSw); go_simp; try with_reducible rfl
  try simp only [Act.put, List.setIfInBounds_toArray, List.set_cons_zero, List.set_cons_succ]
  refine wpAnyH_ready (rs := [9]) (by kernel_rfl) (by simp) (AllReadyH.cons (o := ⟨some 14, .call { callee := Callee.value (.func 36), args := #[.tmp 13], argTypes := #[22] }, 56, "ref.go:358", #[⟨8, .data⟩, ⟨6, .chain⟩, ⟨6, .guard⟩], some (6, true)⟩) rfl (fun K hK => ?_) AllReadyH.nil)
  go_simp
  refine (S1.out _ BA.out).mono ?_
  rintro e y2 ⟨rfl, rfl⟩
  clear hHeld
  refine hK.out _ _ (BX.out _ BV.out) (fun hHeld => ?_)
  clear hK K
  try simp only [Act.put, List.setIfInBounds_toArray, List.set_cons_zero, List.set_cons_succ]
  refine wpAnyH_ready (rs := [12]) (by kernel_rfl) (by simp) (AllReadyH.cons (o := ⟨some 17, .call { callee := Callee.value (.func 36), args := #[.tmp 16], argTypes := #[22] }, 56, "ref.go:358", #[⟨11, .data⟩, ⟨9, .chain⟩, ⟨6, .guard⟩], some (6, true)⟩) rfl (fun K hK => ?_) AllReadyH.nil)
  go_simp
  refine (T1.out _ BA.out).mono ?_
  rintro e y3 ⟨rfl, rfl⟩
  clear hHeld
  refine hK.out _ _ (BX.out _ BV.out) (fun hHeld => ?_)
  clear hK K
  try simp only [Act.put, List.setIfInBounds_toArray, List.set_cons_zero, List.set_cons_succ]
  refine wpAnyH_take (i := 13) (oi := ⟨some 18, .binOp .eql 56 (.tmp 14) (.tmp 17) 56, 4, "ref.go:358", #[⟨9, .data⟩, ⟨12, .data⟩, ⟨6, .guard⟩], some (6, true)⟩) (v := ?vn10k13) rfl (by kernel_rfl) (by kernel_rfl) (by kernel_rfl) (fun _ _ _ h => h) (Or.inl ⟨by kernel_rfl, ?yn10k13⟩) (by assumption) ?rn10k13
  case yn10k13 => intro w hSw; (try dsimp only at hSw); go_simp; try with_reducible rfl
  try simp only [Act.put, List.setIfInBounds_toArray, List.set_cons_zero, List.set_cons_succ]
  refine wpAnyH_take (i := 14) (oi := ⟨some 19, .pick (.tmp 11) (.tmp 18) (.const (Value.bool false)), 4, "ref.go:358", #[⟨6, .data⟩, ⟨13, .data⟩], none⟩) (v := ?vn11k14) rfl (by kernel_rfl) (by kernel_rfl) (by kernel_rfl) (fun _ _ _ h => h) (Or.inl ⟨by kernel_rfl, ?yn11k14⟩) (by assumption) ?rn11k14
  case yn11k14 => intro w hSw; (try dsimp only at hSw); go_simp; try with_reducible rfl
  try simp only [Act.put, List.setIfInBounds_toArray, List.set_cons_zero, List.set_cons_succ]
  refine wpAnyH_take (i := 15) (oi := ⟨some 20, .move (.tmp 19), 4, "ref.go:358", #[⟨14, .data⟩, ⟨12, .chain⟩], none⟩) (v := ?vn12k15) rfl (by kernel_rfl) (by kernel_rfl) (by kernel_rfl) (fun _ _ _ h => h) (Or.inl ⟨by kernel_rfl, ?yn12k15⟩) (by assumption) ?rn12k15
  case yn12k15 => intro w hSw; (try dsimp only at hSw); go_simp; try with_reducible rfl
  try simp only [Act.put, List.setIfInBounds_toArray, List.set_cons_zero, List.set_cons_succ]
  refine wpAnyH_take (i := 16) (oi := ⟨some 21, .fieldAddr 24 (.tmp 2) 1, 0, "ref.go:358", #[⟨15, .guard⟩], some (15, true)⟩) (v := ?vn13k16) rfl (by kernel_rfl) (by kernel_rfl) (by kernel_rfl) (fun _ _ _ h => h) (Or.inl ⟨by kernel_rfl, ?yn13k16⟩) (by assumption) ?rn13k16
  case yn13k16 => intro w hSw; (try dsimp only at hSw); go_simp; try with_reducible rfl
  try simp only [Act.put, List.setIfInBounds_toArray, List.set_cons_zero, List.set_cons_succ]
  refine wpAnyH_take (i := 17) (oi := ⟨some 22, .load 22 (.tmp 21), 22, "ref.go:358", #[⟨16, .data⟩, ⟨15, .guard⟩], some (15, true)⟩) (v := ?vn14k17) rfl (by kernel_rfl) (by kernel_rfl) (by kernel_rfl) (fun _ _ _ h => h) (Or.inl ⟨by kernel_rfl, ?yn14k17⟩) (by assumption) ?rn14k17
  case yn14k17 => intro w hSw; (try dsimp only at hSw); go_simp; try with_reducible rfl
  try simp only [Act.put, List.setIfInBounds_toArray, List.set_cons_zero, List.set_cons_succ]
  refine wpAnyH_take (i := 19) (oi := ⟨some 24, .fieldAddr 24 (.tmp 3) 1, 0, "ref.go:358", #[⟨15, .guard⟩], some (15, true)⟩) (v := ?vn15k19) rfl (by kernel_rfl) (by kernel_rfl) (by kernel_rfl) (fun _ _ _ h => h) (Or.inl ⟨by kernel_rfl, ?yn15k19⟩) (by assumption) ?rn15k19
  case yn15k19 => intro w hSw; (try dsimp only at hSw); go_simp; try with_reducible rfl
  try simp only [Act.put, List.setIfInBounds_toArray, List.set_cons_zero, List.set_cons_succ]
  refine wpAnyH_take (i := 20) (oi := ⟨some 25, .load 22 (.tmp 24), 22, "ref.go:358", #[⟨19, .data⟩, ⟨15, .guard⟩], some (15, true)⟩) (v := ?vn16k20) rfl (by kernel_rfl) (by kernel_rfl) (by kernel_rfl) (fun _ _ _ h => h) (Or.inl ⟨by kernel_rfl, ?yn16k20⟩) (by assumption) ?rn16k20
  case yn16k20 => intro w hSw; (try dsimp only at hSw); go_simp; try with_reducible rfl
  try simp only [Act.put, List.setIfInBounds_toArray, List.set_cons_zero, List.set_cons_succ]
  refine wpAnyH_ready (rs := [18]) (by kernel_rfl) (by simp) (AllReadyH.cons (o := ⟨some 23, .call { callee := Callee.value (.func 36), args := #[.tmp 22], argTypes := #[22] }, 56, "ref.go:358", #[⟨17, .data⟩, ⟨15, .chain⟩, ⟨15, .guard⟩], some (15, true)⟩) rfl (fun K hK => ?_) AllReadyH.nil)
  go_simp
  refine (S2.out _ BA.out).mono ?_
  rintro e y4 ⟨rfl, rfl⟩
  clear hHeld
  refine hK.out _ _ (BX.out _ BV.out) (fun hHeld => ?_)
  clear hK K
  try simp only [Act.put, List.setIfInBounds_toArray, List.set_cons_zero, List.set_cons_succ]
  refine wpAnyH_ready (rs := [21]) (by kernel_rfl) (by simp) (AllReadyH.cons (o := ⟨some 26, .call { callee := Callee.value (.func 36), args := #[.tmp 25], argTypes := #[22] }, 56, "ref.go:358", #[⟨20, .data⟩, ⟨18, .chain⟩, ⟨15, .guard⟩], some (15, true)⟩) rfl (fun K hK => ?_) AllReadyH.nil)
  go_simp
  refine (T2.out _ BA.out).mono ?_
  rintro e y5 ⟨rfl, rfl⟩
  clear hHeld
  refine hK.out _ _ (BX.out _ BV.out) (fun hHeld => ?_)
  clear hK K
  try simp only [Act.put, List.setIfInBounds_toArray, List.set_cons_zero, List.set_cons_succ]
  refine wpAnyH_take (i := 22) (oi := ⟨some 27, .binOp .eql 56 (.tmp 23) (.tmp 26) 56, 4, "ref.go:358", #[⟨18, .data⟩, ⟨21, .data⟩, ⟨15, .guard⟩], some (15, true)⟩) (v := ?vn17k22) rfl (by kernel_rfl) (by kernel_rfl) (by kernel_rfl) (fun _ _ _ h => h) (Or.inl ⟨by kernel_rfl, ?yn17k22⟩) (by assumption) ?rn17k22
  case yn17k22 => intro w hSw; (try dsimp only at hSw); go_simp; try with_reducible rfl
  try simp only [Act.put, List.setIfInBounds_toArray, List.set_cons_zero, List.set_cons_succ]
  refine wpAnyH_take (i := 23) (oi := ⟨some 28, .pick (.tmp 20) (.tmp 27) (.const (Value.bool false)), 4, "ref.go:358", #[⟨15, .data⟩, ⟨22, .data⟩], none⟩) (v := ?vn18k23) rfl (by kernel_rfl) (by kernel_rfl) (by kernel_rfl) (fun _ _ _ h => h) (Or.inl ⟨by kernel_rfl, ?yn18k23⟩) (by assumption) ?rn18k23
  case yn18k23 => intro w hSw; (try dsimp only at hSw); go_simp; try with_reducible rfl
  try simp only [Act.put, List.setIfInBounds_toArray, List.set_cons_zero, List.set_cons_succ]
  refine wpAnyH_take (i := 24) (oi := ⟨some 29, .move (.tmp 28), 4, "ref.go:358", #[⟨23, .data⟩, ⟨21, .chain⟩], none⟩) (v := ?vn19k24) rfl (by kernel_rfl) (by kernel_rfl) (by kernel_rfl) (fun _ _ _ h => h) (Or.inl ⟨by kernel_rfl, ?yn19k24⟩) (by assumption) ?rn19k24
  case yn19k24 => intro w hSw; (try dsimp only at hSw); go_simp; try with_reducible rfl
  try simp only [Act.put, List.setIfInBounds_toArray, List.set_cons_zero, List.set_cons_succ]
  refine wpAnyH_take (i := 25) (oi := ⟨some 30, .fieldAddr 24 (.tmp 2) 2, 0, "ref.go:358", #[⟨24, .guard⟩], some (24, true)⟩) (v := ?vn20k25) rfl (by kernel_rfl) (by kernel_rfl) (by kernel_rfl) (fun _ _ _ h => h) (Or.inl ⟨by kernel_rfl, ?yn20k25⟩) (by assumption) ?rn20k25
  case yn20k25 => intro w hSw; (try dsimp only at hSw); go_simp; try with_reducible rfl
  try simp only [Act.put, List.setIfInBounds_toArray, List.set_cons_zero, List.set_cons_succ]
  refine wpAnyH_take (i := 26) (oi := ⟨some 31, .load 3 (.tmp 30), 3, "ref.go:358", #[⟨25, .data⟩, ⟨24, .guard⟩], some (24, true)⟩) (v := ?vn21k26) rfl (by kernel_rfl) (by kernel_rfl) (by kernel_rfl) (fun _ _ _ h => h) (Or.inl ⟨by kernel_rfl, ?yn21k26⟩) (by assumption) ?rn21k26
  case yn21k26 => intro w hSw; (try dsimp only at hSw); go_simp; try with_reducible rfl
  try simp only [Act.put, List.setIfInBounds_toArray, List.set_cons_zero, List.set_cons_succ]
  refine wpAnyH_take (i := 27) (oi := ⟨some 32, .fieldAddr 24 (.tmp 3) 2, 0, "ref.go:358", #[⟨24, .guard⟩], some (24, true)⟩) (v := ?vn22k27) rfl (by kernel_rfl) (by kernel_rfl) (by kernel_rfl) (fun _ _ _ h => h) (Or.inl ⟨by kernel_rfl, ?yn22k27⟩) (by assumption) ?rn22k27
  case yn22k27 => intro w hSw; (try dsimp only at hSw); go_simp; try with_reducible rfl
  try simp only [Act.put, List.setIfInBounds_toArray, List.set_cons_zero, List.set_cons_succ]
  refine wpAnyH_take (i := 28) (oi := ⟨some 33, .load 3 (.tmp 32), 3, "ref.go:358", #[⟨27, .data⟩, ⟨24, .guard⟩], some (24, true)⟩) (v := ?vn23k28) rfl (by kernel_rfl) (by kernel_rfl) (by kernel_rfl) (fun _ _ _ h => h) (Or.inl ⟨by kernel_rfl, ?yn23k28⟩) (by assumption) ?rn23k28
  case yn23k28 => intro w hSw; (try dsimp only at hSw); go_simp; try with_reducible rfl
  try simp only [Act.put, List.setIfInBounds_toArray, List.set_cons_zero, List.set_cons_succ]
  refine wpAnyH_take (i := 29) (oi := ⟨some 34, .binOp .eql 3 (.tmp 31) (.tmp 33) 3, 4, "ref.go:358", #[⟨26, .data⟩, ⟨28, .data⟩, ⟨24, .guard⟩], some (24, true)⟩) (v := ?vn24k29) rfl (by kernel_rfl) (by kernel_rfl) (by kernel_rfl) (fun _ _ _ h => h) (Or.inl ⟨by kernel_rfl, ?yn24k29⟩) (by assumption) ?rn24k29
  case yn24k29 => intro w hSw; (try dsimp only at hSw); go_simp; try with_reducible rfl
  try simp only [Act.put, List.setIfInBounds_toArray, List.set_cons_zero, List.set_cons_succ]
  refine wpAnyH_take (i := 30) (oi := ⟨some 35, .pick (.tmp 29) (.tmp 34) (.const (Value.bool false)), 4, "ref.go:358", #[⟨24, .data⟩, ⟨29, .data⟩], none⟩) (v := ?vn25k30) rfl (by kernel_rfl) (by kernel_rfl) (by kernel_rfl) (fun _ _ _ h => h) (Or.inl ⟨by kernel_rfl, ?yn25k30⟩) (by assumption) ?rn25k30
  case yn25k30 => intro w hSw; (try dsimp only at hSw); go_simp; try with_reducible rfl
  try simp only [Act.put, List.setIfInBounds_toArray, List.set_cons_zero, List.set_cons_succ]
  refine wpAnyH_take (i := 31) (oi := ⟨some 36, .move (.tmp 35), 4, "ref.go:358", #[⟨30, .data⟩, ⟨24, .chain⟩], none⟩) (v := ?vn26k31) rfl (by kernel_rfl) (by kernel_rfl) (by kernel_rfl) (fun _ _ _ h => h) (Or.inl ⟨by kernel_rfl, ?yn26k31⟩) (by assumption) ?rn26k31
  case yn26k31 => intro w hSw; (try dsimp only at hSw); go_simp; try with_reducible rfl
  try simp only [Act.put, List.setIfInBounds_toArray, List.set_cons_zero, List.set_cons_succ]
  refine wpAnyH_take (i := 32) (oi := ⟨some 37, .fieldAddr 24 (.tmp 2) 3, 0, "ref.go:358", #[⟨31, .guard⟩], some (31, true)⟩) (v := ?vn27k32) rfl (by kernel_rfl) (by kernel_rfl) (by kernel_rfl) (fun _ _ _ h => h) (Or.inl ⟨by kernel_rfl, ?yn27k32⟩) (by assumption) ?rn27k32
  case yn27k32 => intro w hSw; (try dsimp only at hSw); go_simp; try with_reducible rfl
  try simp only [Act.put, List.setIfInBounds_toArray, List.set_cons_zero, List.set_cons_succ]
  refine wpAnyH_take (i := 33) (oi := ⟨some 38, .load 3 (.tmp 37), 3, "ref.go:358", #[⟨32, .data⟩, ⟨31, .guard⟩], some (31, true)⟩) (v := ?vn28k33) rfl (by kernel_rfl) (by kernel_rfl) (by kernel_rfl) (fun _ _ _ h => h) (Or.inl ⟨by kernel_rfl, ?yn28k33⟩) (by assumption) ?rn28k33
  case yn28k33 => intro w hSw; (try dsimp only at hSw); go_simp; try with_reducible rfl
  try simp only [Act.put, List.setIfInBounds_toArray, List.set_cons_zero, List.set_cons_succ]
  refine wpAnyH_take (i := 34) (oi := ⟨some 39, .fieldAddr 24 (.tmp 3) 3, 0, "ref.go:358", #[⟨31, .guard⟩], some (31, true)⟩) (v := ?vn29k34) rfl (by kernel_rfl) (by kernel_rfl) (by kernel_rfl) (fun _ _ _ h => h) (Or.inl ⟨by kernel_rfl, ?yn29k34⟩) (by assumption) ?rn29k34
  case yn29k34 => intro w hSw; (try dsimp only at hSw); go_simp; try with_reducible rfl
  try simp only [Act.put, List.setIfInBounds_toArray, List.set_cons_zero, List.set_cons_succ]
  refine wpAnyH_take (i := 35) (oi := ⟨some 40, .load 3 (.tmp 39), 3, "ref.go:358", #[⟨34, .data⟩, ⟨31, .guard⟩], some (31, true)⟩) (v := ?vn30k35) rfl (by kernel_rfl) (by kernel_rfl) (by kernel_rfl) (fun _ _ _ h => h) (Or.inl ⟨by kernel_rfl, ?yn30k35⟩) (by assumption) ?rn30k35
  case yn30k35 => intro w hSw; (try dsimp only at hSw); go_simp; try with_reducible rfl
  try simp only [Act.put, List.setIfInBounds_toArray, List.set_cons_zero, List.set_cons_succ]
  refine wpAnyH_take (i := 36) (oi := ⟨some 41, .binOp .eql 3 (.tmp 38) (.tmp 40) 3, 4, "ref.go:358", #[⟨33, .data⟩, ⟨35, .data⟩, ⟨31, .guard⟩], some (31, true)⟩) (v := ?vn31k36) rfl (by kernel_rfl) (by kernel_rfl) (by kernel_rfl) (fun _ _ _ h => h) (Or.inl ⟨by kernel_rfl, ?yn31k36⟩) (by assumption) ?rn31k36
  case yn31k36 => intro w hSw; (try dsimp only at hSw); go_simp; try with_reducible rfl
  try simp only [Act.put, List.setIfInBounds_toArray, List.set_cons_zero, List.set_cons_succ]
  refine wpAnyH_take (i := 37) (oi := ⟨some 42, .pick (.tmp 36) (.tmp 41) (.const (Value.bool false)), 4, "ref.go:358", #[⟨31, .data⟩, ⟨36, .data⟩], none⟩) (v := ?vn32k37) rfl (by kernel_rfl) (by kernel_rfl) (by kernel_rfl) (fun _ _ _ h => h) (Or.inl ⟨by kernel_rfl, ?yn32k37⟩) (by assumption) ?rn32k37
  case yn32k37 => intro w hSw; (try dsimp only at hSw); go_simp; try with_reducible rfl
  try simp only [Act.put, List.setIfInBounds_toArray, List.set_cons_zero, List.set_cons_succ]
  refine wpAnyH_take (i := 38) (oi := ⟨some 4, .assign (.tmp 42), 4, "ref.go:358", #[⟨37, .data⟩, ⟨31, .chain⟩, ⟨0, .phase⟩, ⟨1, .phase⟩, ⟨2, .phase⟩, ⟨3, .phase⟩, ⟨4, .phase⟩, ⟨5, .phase⟩, ⟨6, .phase⟩, ⟨7, .phase⟩, ⟨8, .phase⟩, ⟨9, .phase⟩, ⟨10, .phase⟩, ⟨11, .phase⟩, ⟨12, .phase⟩, ⟨13, .phase⟩, ⟨14, .phase⟩, ⟨15, .phase⟩, ⟨16, .phase⟩, ⟨17, .phase⟩, ⟨18, .phase⟩, ⟨19, .phase⟩, ⟨20, .phase⟩, ⟨21, .phase⟩, ⟨22, .phase⟩, ⟨23, .phase⟩, ⟨24, .phase⟩, ⟨25, .phase⟩, ⟨26, .phase⟩, ⟨27, .phase⟩, ⟨28, .phase⟩, ⟨29, .phase⟩, ⟨30, .phase⟩, ⟨31, .phase⟩, ⟨32, .phase⟩, ⟨33, .phase⟩, ⟨34, .phase⟩, ⟨35, .phase⟩, ⟨36, .phase⟩, ⟨37, .phase⟩], none⟩) (v := ?vn33k38) rfl (by kernel_rfl) (by kernel_rfl) (by kernel_rfl) (fun _ _ _ h => h) (Or.inl ⟨by kernel_rfl, ?yn33k38⟩) (by assumption) ?rn33k38
  case yn33k38 => intro w hSw; (try dsimp only at hSw); go_simp; try with_reducible rfl
  try simp only [Act.put, List.setIfInBounds_toArray, List.set_cons_zero, List.set_cons_succ]
  refine wpAnyH_done (by kernel_rfl) ?_ _
  go_wp2_with fail
  go_ret
  exact ⟨rfl, BA.out⟩
end Go.Proofs.YthakhdbakmlooaaDoor

/-
  Two lists of families compared; relations behind a row of relations of one's own.
-/
namespace Go.Proofs.YthakhdbakmlooaaDoor
set_option linter.unusedSimpArgs false
set_option linter.unusedVariables false
open Go Go.RowKit Go.Shelf Go.Ev

set_option maxRecDepth 100000 in
set_option maxHeartbeats 16000000 in
theorem alike_true (fs gs : List FamV) (A B : Option Addr) (c1 c2 : Nat) (w : World) (ha : FamsLie w A fs) (hb : FamsLie w B gs) (hl : gs.length = fs.length) (hv : ∀ f ∈ fs, f.ok = true)
    (he : ∀ i (h : i < fs.length) (h2 : i < gs.length), gs[i].lo = fs[i].lo ∧ gs[i].hi = fs[i].hi ∧ gs[i].mn = fs[i].mn ∧ gs[i].mx = fs[i].mx) :
    Calls Tryd.prog 28 #[.slice A fs.length c1, .slice B fs.length c2] w fun e w' => e = .returned (.bool true) ∧ Below w.heap.size w w' := by
  have hl1 := ha.1
  have HA := Lib.hid ha
  have HB := Lib.hid hb
  have HL := Lib.hid hl
  have HV := Lib.hid hv
  have HE := Lib.hid he
  clear ha hb hl hv he
  go_enter Tryd.func28, Tryd.ntmps28
  go_wp2_with fail
  go_loopw [5, 13] (fun _ i wr => ∃ k : Nat, k ≤ fs.length ∧ i = .int .i64 k ∧ Below w.heap.size w wr) (fun _ i _ => fs.length - (intOf i).toNat)
  case atStart => exact ⟨0, Nat.zero_le _, rfl, Below.refl _ _⟩
  case round =>
    obtain ⟨k, hk, rfl, hbw⟩ := hrel
    have BW := Lib.hid hbw
    clear hbw
    by_cases hlt : k < fs.length
    · obtain ⟨b, o, eA, hb, hf⟩ := HA.out.2 (by omega)
      have hlt2 : k < gs.length := by rw [HL.out]; exact hlt
      obtain ⟨b', o', eB, hb', hf'⟩ := HB.out.2 (by omega)
      have LA := Lib.hid ((hf k hlt).over hb BW.out)
      have LB := Lib.hid ((hf' k hlt2).over hb' BW.out)
      have VK := Lib.hid (HV.out _ (List.getElem_mem hlt))
      have EK := Lib.hid (HE.out k hlt hlt2)
      have EA := Lib.hid eA
      have EB := Lib.hid eB
      clear hf hf' hb hb' eA eB
      generalize fs[k] = f at *
      generalize gs[k] = g at *
      obtain rfl := EA.out
      obtain rfl := EB.out
      clear hlt2
      obtain ⟨a0, a1, a2, a3, a4, a5⟩ := LA.out
      obtain ⟨b0, b1, b2, b3, b4, b5⟩ := LB.out
      obtain ⟨e1, e2, e3, e4⟩ := EK.out
      rw [e1] at b0 b4
      rw [e2] at b1 b5
      rw [e3] at b2
      rw [e4] at b3
      have SM := Lib.hid (fun w1 (h : Below wr.heap.size wr w1) => Same_true f.lo f.hi f.mn f.mx f.A f.B g.A g.B f.c1 f.c2 g.c1 g.c2 w1 (a4.over h) (a5.over h) (b4.over h) (b5.over h) VK.out)
      have z1 : (k : Int) < (fs.length : Int) := by omega
      have z2 : (0 : Int) ≤ (k : Int) := by omega
      have BD := Lib.hid (show Below wr.heap.size wr wr.drew from (Below.refl _ wr).drew)
      clear a4 a5 b4 b5 e1 e2 e3 e4 LA LB EK
      go_upto_region 6 with fail
      go_still_tail 8, (by kernel_rfl)
      change wpList _ _ _ _ _ wr.drew
      clear a0 a1 a2 a3 b0 b1 b2 b3
      generalize wr.drew = wd at *
      go_wp2_with (go_at_call 11; refine (SM.out _ BD.out).mono ?_; rintro e w3 ⟨rfl, hb⟩; have B3 := Lib.hid (BD.out.trans (hb.mono BD.out.size)); clear hb SM)
      go_roundw
      case rel => exact ⟨k + 1, by omega, by go_num, BW.out.trans (B3.out.mono BW.out.size)⟩
      case measure => simp [intOf]; omega
    · obtain rfl : k = fs.length := by omega
      go_wp2_with fail
      go_ret
      exact ⟨rfl, BW.out⟩

/-- a relation's cells -/
def relCell (r : RelV) (j : Nat) : Value := match j with
  | 0 => .string r.k
  | 1 => .slice r.A r.vs.length r.c
  | _ => .int .i64 r.N
instance : Inhabited RelV := ⟨⟨ByteArray.empty, .none, [], 0, none, 0⟩⟩
def flatR (rs : List RelV) : List Value := (List.range (rs.length * 3)).map fun q => relCell (rs.getD (q / 3) default) (q % 3)
theorem flatR_snoc (rs : List RelV) (r : RelV) : flatR (rs ++ [r]) = flatR rs ++ [relCell r 0, relCell r 1, relCell r 2] := by
  unfold flatR
  rw [List.length_append, List.length_singleton, show (rs.length + 1) * 3 = rs.length * 3 + 1 + 1 + 1 by omega, List.range_succ, List.range_succ, List.range_succ]
  simp only [List.map_append, List.map_cons, List.map_nil, List.append_assoc, List.singleton_append]
  have key : ∀ j, j < 3 → relCell ((rs ++ [r]).getD ((rs.length * 3 + j) / 3) default) ((rs.length * 3 + j) % 3) = relCell r j := fun j hj => by
    rw [show (rs.length * 3 + j) / 3 = rs.length by omega, show (rs.length * 3 + j) % 3 = j by omega]
    rw [List.getD_eq_getElem?_getD, List.getElem?_append_right (Nat.le_refl _), Nat.sub_self]
    rfl
  have k0 := key 0 (by decide)
  have k1 := key 1 (by decide)
  have k2 := key 2 (by decide)
  rw [Nat.add_zero] at k0
  rw [k0, k1, show rs.length * 3 + 1 + 1 = rs.length * 3 + 2 by omega, k2]
  congr 1
  refine List.map_congr_left fun q hq => ?_
  have hq := List.mem_range.1 hq
  rw [List.getD_eq_getElem?_getD, List.getD_eq_getElem?_getD, List.getElem?_append_left (by omega)]
theorem flatR_get (rs : List RelV) (i j : Nat) (hi : i < rs.length) (hj : j < 3) : (flatR rs)[i * 3 + j]? = some (relCell rs[i] j) := by
  unfold flatR
  rw [List.getElem?_map, List.getElem?_range (by omega)]
  rw [Option.map_some, show (i * 3 + j) / 3 = i by omega, show (i * 3 + j) % 3 = j by omega, List.getD_eq_getElem?_getD, List.getElem?_eq_getElem hi]
  rfl
theorem relCell_one (r : RelV) (j : Nat) : (relCell r j).oneCell' = true := by
  unfold relCell
  split <;> rfl
theorem rels_of_owns {W : World} {base : Nat} {v : Value} {rs : List RelV} (hn : rs.length ≤ 1000000) (h : W.ownsRow base 38 3 v rs.length (flatR rs)) (hI : ∀ r ∈ rs, KF r.k.toList r.d ∧ Ints W r.A r.vs) :
    ∃ A cap, v = .slice A rs.length cap ∧ RelsL W A rs := by
  obtain ⟨h1, h2⟩ := h
  rcases h2 with ⟨h0, hz⟩ | ⟨g, cap, cur, hv, hb, hg, hc, hm, hs, ht⟩
  · refine ⟨none, 0, by rw [h0, hz], hn, fun hp => by omega⟩
  · refine ⟨_, cap, hv, hn, fun _ => ⟨g, 0, rfl, (Array.getElem?_eq_some_iff.1 hg).1, fun i hi => ?_⟩⟩
    have cell : ∀ j, j < 3 → W.cell? ⟨g, i * 3 + j, none⟩ = some (relCell rs[i] j) := fun j hj => by
      have e := flatR_get rs i j hi hj
      rw [← ht, List.getElem?_take, if_pos (by omega)] at e
      simp only [World.cell?, hg]
      simpa using e
    have c0 := cell 0 (by decide)
    have c1 := cell 1 (by decide)
    have c2 := cell 2 (by decide)
    obtain ⟨q1, q2⟩ := hI _ (List.getElem_mem hi)
    refine ⟨?_, ?_, ?_, q1, q2⟩
    · rw [Nat.zero_add]; exact c0
    · rw [Nat.zero_add]; exact c1
    · rw [Nat.zero_add]; exact c2
theorem infoRel : (Tryd.prog.info? 38).map (fun i => (i.zero, i.size, i.bytes)) = some (some (.agg #[.string ByteArray.empty, .slice none 0 0, .int .i64 0]), 3, 48) := by kernel_rfl
theorem cells3_new (w : World) (a b c : Value) (t : TypeId) : ∀ j u, [a, b, c][j]? = some u → (w.alloc (.cells #[a, b, c] t)).cell? ((⟨w.heap.size, 0, none⟩ : Addr).add j) = some u := by
  intro j u hj
  match j, hj with
  | 0, hj => simp at hj; subst hj; simp [Addr.add]
  | 1, hj => simp at hj; subst hj; simp [Addr.add]
  | 2, hj => simp at hj; subst hj; simp [Addr.add]
set_option maxRecDepth 100000 in
/-- a relation behind a row of one's own; the new one lies in a new block -/
theorem wpList_append_rel {w0 : World} {ops : Array Oper} {rest : List Oper} {o : Oper} {a : Act} {Q : Exit → Act → World → Prop} (hgd : o.guard = none) (s x : Operand)
    (ho : o.op = .call { callee := .builtin .append, args := #[s, x], argTypes := #[41, 41] })
    (base : Nat) (v : Value) (rs : List RelV) (r : RelV) (hs : a.eval s = v) (hown : w0.ownsRow base 38 3 v rs.length (flatR rs)) (c : Nat)
    (hx : a.eval x = .slice (some ⟨w0.heap.size, 0, none⟩) 1 c) (h63 : rs.length ≤ 1000000) (hbase : base ≤ w0.heap.size)
    (h : ∀ v' w', w'.ownsRow base 38 3 v' (rs ++ [r]).length (flatR (rs ++ [r])) → (w0.alloc (.cells #[relCell r 0, relCell r 1, relCell r 2] 38)).grownBy w' v.ownBlock → wpList Tryd.prog ops Q rest (a.put o.dst v') w') :
    wpList Tryd.prog ops Q (o :: rest) a (w0.alloc (.cells #[relCell r 0, relCell r 1, relCell r 2] 38)) := by
  obtain ⟨i0, hi, hz0, hz1, hz2⟩ := info_parts infoRel
  refine wpList_append_own_at _ hgd s x 41 ho base 38 i0 _ 3 48 Tryd.underlying41 hi hz0 hz1 hz2 rfl (by decide) v rs.length (flatR rs) hs (hown.alloc _) ⟨w0.heap.size, 0, none⟩ 1 c [relCell r 0, relCell r 1, relCell r 2] hx rfl (cells3_new _ _ _ _ _) ?c2 ?c3 ?c4 (by simp; omega) ?_
  case c2 =>
    intro u hu
    simp only [List.mem_cons, List.not_mem_nil, or_false] at hu
    rcases hu with rfl | rfl | rfl <;> exact relCell_one _ _
  case c3 => unfold maxLen; omega
  case c4 => omega
  intro v' w' hown' hgrow _ _
  exact h v' w' (by rw [List.length_append, List.length_singleton, flatR_snoc]; exact hown') hgrow
end Go.Proofs.YthakhdbakmlooaaDoor
