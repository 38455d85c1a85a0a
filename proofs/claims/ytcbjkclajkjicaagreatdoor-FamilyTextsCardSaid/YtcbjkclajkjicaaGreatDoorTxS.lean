/-
  Same: of any two families that are valid.
-/
import Derived.Test.YtcbjkclajkjicaaGreatDoorFzE
namespace Go.Proofs.YtcbjkclajkjicaaGreatDoor
set_option linter.unusedSimpArgs false
set_option linter.unusedVariables false
open Go Go.RowKit Go.Shelf Go.Ev

set_option maxRecDepth 100000 in
set_option maxHeartbeats 8000000 in
theorem Same_c0 (lo hi lo' hi' : List Int) (mn mx mn' mx' : Int) (A B A' B' : Option Addr) (c1 c2 c1' c2' : Nat) (w : World) (ha : Ints w A lo) (hb : Ints w B hi) (ha' : Ints w A' lo') (hb' : Ints w B' hi') (hV : validFB lo hi mn mx = true) (hV' : validFB lo' hi' mn' mx' = true) (h1 : ((setN lo : Int) == (setN lo' : Int)) = false) :
    Calls Tryz.prog 10 #[.agg #[.slice A lo.length c1, .slice B hi.length c2, .int .i64 mn, .int .i64 mx], .agg #[.slice A' lo'.length c1', .slice B' hi'.length c2', .int .i64 mn', .int .i64 mx']] w fun e w' => e = .returned (.bool false) ∧ Below w.heap.size w w' := by
  have VP := Lib.hid (fun w1 (h : Below w.heap.size w w1) => FValid_r_any lo hi mn mx A B c1 c2 w1 (ha.over h) (hb.over h))
  have VQ := Lib.hid (fun w1 (h : Below w.heap.size w w1) => FValid_r_any lo' hi' mn' mx' A' B' c1' c2' w1 (ha'.over h) (hb'.over h))
  rw [hV] at VP
  rw [hV'] at VQ
  obtain ⟨hr1, hr2⟩ : lo.all inR = true ∧ hi.all inR = true := by
    unfold validFB elemsB at hV
    simp only [Bool.and_eq_true] at hV
    exact ⟨hV.1.1.1.2, hV.1.1.2.2⟩
  obtain ⟨hr3, hr4⟩ : lo'.all inR = true ∧ hi'.all inR = true := by
    unfold validFB elemsB at hV'
    simp only [Bool.and_eq_true] at hV'
    exact ⟨hV'.1.1.1.2, hV'.1.1.2.2⟩
  have S1 := Lib.hid (fun w1 (h : Below w.heap.size w w1) => rof_any lo A c1 w1 (ha.over h) hr1)
  have S2 := Lib.hid (fun w1 (h : Below w.heap.size w w1) => rof_any hi B c2 w1 (hb.over h) hr2)
  have T1 := Lib.hid (fun w1 (h : Below w.heap.size w w1) => rof_any lo' A' c1' w1 (ha'.over h) hr3)
  have T2 := Lib.hid (fun w1 (h : Below w.heap.size w w1) => rof_any hi' B' c2' w1 (hb'.over h) hr4)
  have hl1 := ha.1
  have hl2 := hb.1
  have hl3 := ha'.1
  have hl4 := hb'.1
  clear ha hb ha' hb' hV hV' hr1 hr2 hr3 hr4
  generalize lo.length = n1 at *
  generalize hi.length = n2 at *
  generalize lo'.length = n1' at *
  generalize hi'.length = n2' at *
  generalize setN lo = L at *
  generalize setN hi = H at *
  generalize setN lo' = L' at *
  generalize setN hi' = H' at *
  have BA := Lib.hid (show Below w.heap.size w ((w.alloc (.cells #[.slice A n1 c1, .slice B n2 c2, .int .i64 mn, .int .i64 mx] 24)).alloc (.cells #[.slice A' n1' c1', .slice B' n2' c2', .int .i64 mn', .int .i64 mx'] 24)) from ((Below.refl _ w).alloc (Nat.le_refl _) _).alloc (by simp) _)
  have BX := Lib.hid (show ∀ wx : World, Below (w.heap.size + 2) ((w.alloc (.cells #[.slice A n1 c1, .slice B n2 c2, .int .i64 mn, .int .i64 mx] 24)).alloc (.cells #[.slice A' n1' c1', .slice B' n2' c2', .int .i64 mn', .int .i64 mx'] 24)) wx → wx.cell? ⟨w.heap.size, 0, none⟩ = some (.slice A n1 c1) ∧ wx.cell? ⟨w.heap.size, 1, none⟩ = some (.slice B n2 c2) ∧ wx.cell? ⟨w.heap.size, 2, none⟩ = some (.int .i64 mn) ∧ wx.cell? ⟨w.heap.size, 3, none⟩ = some (.int .i64 mx) ∧ wx.cell? ⟨w.heap.size + 1, 0, none⟩ = some (.slice A' n1' c1') ∧ wx.cell? ⟨w.heap.size + 1, 1, none⟩ = some (.slice B' n2' c2') ∧ wx.cell? ⟨w.heap.size + 1, 2, none⟩ = some (.int .i64 mn') ∧ wx.cell? ⟨w.heap.size + 1, 3, none⟩ = some (.int .i64 mx') from fun wx h => by
    have hh := (h.block w.heap.size (by omega)).trans (heap_alloc2_old w (.cells #[.slice A n1 c1, .slice B n2 c2, .int .i64 mn, .int .i64 mx] 24) _)
    have hk := (h.block (w.heap.size + 1) (by omega)).trans (heap_alloc2_new w _ (.cells #[.slice A' n1' c1', .slice B' n2' c2', .int .i64 mn', .int .i64 mx'] 24))
    refine ⟨?_, ?_, ?_, ?_, ?_, ?_, ?_, ?_⟩ <;> (simp only [World.cell?, hh, hk]; rfl))
  have hz : w.heap.size + 2 ≤ ((w.alloc (.cells #[.slice A n1 c1, .slice B n2 c2, .int .i64 mn, .int .i64 mx] 24)).alloc (.cells #[.slice A' n1' c1', .slice B' n2' c2', .int .i64 mn', .int .i64 mx'] 24)).heap.size := by simp
  go_enter Tryz.func10, Tryz.ntmps10
  go_wp2_with fail
  generalize ((w.alloc (.cells #[.slice A n1 c1, .slice B n2 c2, .int .i64 mn, .int .i64 mx] 24)).alloc (.cells #[.slice A' n1' c1', .slice B' n2' c2', .int .i64 mn', .int .i64 mx'] 24)) = W at *
  have S0 : (fun wx : World => wx.cell? ⟨w.heap.size, 0, none⟩ = some (.slice A n1 c1) ∧ wx.cell? ⟨w.heap.size, 1, none⟩ = some (.slice B n2 c2) ∧ wx.cell? ⟨w.heap.size, 2, none⟩ = some (.int .i64 mn) ∧ wx.cell? ⟨w.heap.size, 3, none⟩ = some (.int .i64 mx) ∧ wx.cell? ⟨w.heap.size + 1, 0, none⟩ = some (.slice A' n1' c1') ∧ wx.cell? ⟨w.heap.size + 1, 1, none⟩ = some (.slice B' n2' c2') ∧ wx.cell? ⟨w.heap.size + 1, 2, none⟩ = some (.int .i64 mn') ∧ wx.cell? ⟨w.heap.size + 1, 3, none⟩ = some (.int .i64 mx')) W.drew := BX.out _ (Below.refl _ W).drew
  have BV := Lib.hid (show Below (w.heap.size + 2) W W.drew from (Below.refl _ W).drew)
  replace BA := Lib.hid (show Below w.heap.size w W.drew from BA.out.drew)
  have hvs : w.heap.size + 2 ≤ W.drew.heap.size := hz
  refine wp_region_held_drew (S := fun (wx : World) => wx.cell? ⟨w.heap.size, 0, none⟩ = some (.slice A n1 c1) ∧ wx.cell? ⟨w.heap.size, 1, none⟩ = some (.slice B n2 c2) ∧ wx.cell? ⟨w.heap.size, 2, none⟩ = some (.int .i64 mn) ∧ wx.cell? ⟨w.heap.size, 3, none⟩ = some (.int .i64 mx) ∧ wx.cell? ⟨w.heap.size + 1, 0, none⟩ = some (.slice A' n1' c1') ∧ wx.cell? ⟨w.heap.size + 1, 1, none⟩ = some (.slice B' n2' c2') ∧ wx.cell? ⟨w.heap.size + 1, 2, none⟩ = some (.int .i64 mn') ∧ wx.cell? ⟨w.heap.size + 1, 3, none⟩ = some (.int .i64 mx')) (by kernel_rfl) S0 (fun hHeld => ?_)
  clear S0 hz
  generalize W.drew = V at *
  refine wpAnyH_take (i := 0) (oi := { dst := some 5, op := Op.load 24 (Operand.tmp 2), type := 24, pos := "ref.go:358", after := #[], guard := none }) (v := ?vn1k0) rfl (by kernel_rfl) (by kernel_rfl) (by kernel_rfl) (fun _ _ _ h => h) (Or.inl ⟨by kernel_rfl, ?yn1k0⟩) (by assumption) ?rn1k0
  case yn1k0 => intro w hSw; (try dsimp only at hSw); go_simp; try with_reducible rfl
  try simp only [Act.put, List.setIfInBounds_toArray, List.set_cons_zero, List.set_cons_succ]
  refine wpAnyH_ready (rs := [1]) (by kernel_rfl) (by simp) (AllReadyH.cons (o := { dst := some 6, op := Op.call { callee := Callee.value (Operand.func 23), args := #[Operand.tmp 5], argTypes := #[24] }, type := 4, pos := "ref.go:358", after := #[{ on := 0, ground := Ground.data }], guard := none }) rfl (fun K hK => ?_) AllReadyH.nil)
  go_simp
  refine (VP.out _ BA.out).mono ?_
  rintro e y0 ⟨rfl, hb⟩
  replace BV := Lib.hid (BV.out.trans (hb.mono hvs))
  replace BA := Lib.hid (BA.out.trans (hb.mono BA.out.size))
  replace hvs : w.heap.size + 2 ≤ y0.heap.size := Nat.le_trans hvs hb.size
  clear hb hHeld
  refine hK.out _ _ (BX.out _ BV.out) (fun hHeld => ?_)
  clear hK K
  try simp only [Act.put, List.setIfInBounds_toArray, List.set_cons_zero, List.set_cons_succ]
  refine wpAnyH_take (i := 2) (oi := { dst := some 7, op := Op.move (Operand.tmp 6), type := 4, pos := "ref.go:358", after := #[{ on := 1, ground := Ground.data }, { on := 1, ground := Ground.chain }], guard := none }) (v := ?vn2k2) rfl (by kernel_rfl) (by kernel_rfl) (by kernel_rfl) (fun _ _ _ h => h) (Or.inl ⟨by kernel_rfl, ?yn2k2⟩) (by assumption) ?rn2k2
  case yn2k2 => intro w hSw; (try dsimp only at hSw); go_simp; try with_reducible rfl
  try simp only [Act.put, List.setIfInBounds_toArray, List.set_cons_zero, List.set_cons_succ]
  refine wpAnyH_take (i := 3) (oi := { dst := some 8, op := Op.load 24 (Operand.tmp 3), type := 24, pos := "ref.go:358", after := #[{ on := 2, ground := Ground.guard }], guard := some (2, true) }) (v := ?vn3k3) rfl (by kernel_rfl) (by kernel_rfl) (by kernel_rfl) (fun _ _ _ h => h) (Or.inl ⟨by kernel_rfl, ?yn3k3⟩) (by assumption) ?rn3k3
  case yn3k3 => intro w hSw; (try dsimp only at hSw); go_simp; try with_reducible rfl
  try simp only [Act.put, List.setIfInBounds_toArray, List.set_cons_zero, List.set_cons_succ]
  refine wpAnyH_ready (rs := [4]) (by kernel_rfl) (by simp) (AllReadyH.cons (o := { dst := some 9, op := Op.call { callee := Callee.value (Operand.func 23), args := #[Operand.tmp 8], argTypes := #[24] }, type := 4, pos := "ref.go:358", after := #[{ on := 3, ground := Ground.data }, { on := 2, ground := Ground.chain }, { on := 2, ground := Ground.guard }], guard := some (2, true) }) rfl (fun K hK => ?_) AllReadyH.nil)
  go_simp
  refine (VQ.out _ BA.out).mono ?_
  rintro e y1 ⟨rfl, hb⟩
  replace BV := Lib.hid (BV.out.trans (hb.mono hvs))
  replace BA := Lib.hid (BA.out.trans (hb.mono BA.out.size))
  replace hvs : w.heap.size + 2 ≤ y1.heap.size := Nat.le_trans hvs hb.size
  clear hb hHeld
  refine hK.out _ _ (BX.out _ BV.out) (fun hHeld => ?_)
  clear hK K
  try simp only [Act.put, List.setIfInBounds_toArray, List.set_cons_zero, List.set_cons_succ]
  refine wpAnyH_take (i := 5) (oi := { dst := some 10, op := Op.pick (Operand.tmp 7) (Operand.tmp 9) (Operand.const (Value.bool false)), type := 4, pos := "ref.go:358", after := #[{ on := 2, ground := Ground.data }, { on := 4, ground := Ground.data }], guard := none }) (v := ?vn4k5) rfl (by kernel_rfl) (by kernel_rfl) (by kernel_rfl) (fun _ _ _ h => h) (Or.inl ⟨by kernel_rfl, ?yn4k5⟩) (by assumption) ?rn4k5
  case yn4k5 => intro w hSw; (try dsimp only at hSw); go_simp; try with_reducible rfl
  try simp only [Act.put, List.setIfInBounds_toArray, List.set_cons_zero, List.set_cons_succ]
  refine wpAnyH_take (i := 6) (oi := { dst := some 11, op := Op.move (Operand.tmp 10), type := 4, pos := "ref.go:358", after := #[{ on := 5, ground := Ground.data }, { on := 4, ground := Ground.chain }], guard := none }) (v := ?vn5k6) rfl (by kernel_rfl) (by kernel_rfl) (by kernel_rfl) (fun _ _ _ h => h) (Or.inl ⟨by kernel_rfl, ?yn5k6⟩) (by assumption) ?rn5k6
  case yn5k6 => intro w hSw; (try dsimp only at hSw); go_simp; try with_reducible rfl
  try simp only [Act.put, List.setIfInBounds_toArray, List.set_cons_zero, List.set_cons_succ]
  refine wpAnyH_take (i := 7) (oi := { dst := some 12, op := Op.fieldAddr 24 (Operand.tmp 2) 0, type := 0, pos := "ref.go:358", after := #[{ on := 6, ground := Ground.guard }], guard := some (6, true) }) (v := ?vn6k7) rfl (by kernel_rfl) (by kernel_rfl) (by kernel_rfl) (fun _ _ _ h => h) (Or.inl ⟨by kernel_rfl, ?yn6k7⟩) (by assumption) ?rn6k7
  case yn6k7 => intro w hSw; (try dsimp only at hSw); go_simp; try with_reducible rfl
  try simp only [Act.put, List.setIfInBounds_toArray, List.set_cons_zero, List.set_cons_succ]
  refine wpAnyH_take (i := 8) (oi := { dst := some 13, op := Op.load 22 (Operand.tmp 12), type := 22, pos := "ref.go:358", after := #[{ on := 7, ground := Ground.data }, { on := 6, ground := Ground.guard }], guard := some (6, true) }) (v := ?vn7k8) rfl (by kernel_rfl) (by kernel_rfl) (by kernel_rfl) (fun _ _ _ h => h) (Or.inl ⟨by kernel_rfl, ?yn7k8⟩) (by assumption) ?rn7k8
  case yn7k8 => intro w hSw; (try dsimp only at hSw); go_simp; try with_reducible rfl
  try simp only [Act.put, List.setIfInBounds_toArray, List.set_cons_zero, List.set_cons_succ]
  refine wpAnyH_take (i := 10) (oi := { dst := some 15, op := Op.fieldAddr 24 (Operand.tmp 3) 0, type := 0, pos := "ref.go:358", after := #[{ on := 6, ground := Ground.guard }], guard := some (6, true) }) (v := ?vn8k10) rfl (by kernel_rfl) (by kernel_rfl) (by kernel_rfl) (fun _ _ _ h => h) (Or.inl ⟨by kernel_rfl, ?yn8k10⟩) (by assumption) ?rn8k10
  case yn8k10 => intro w hSw; (try dsimp only at hSw); go_simp; try with_reducible rfl
  try simp only [Act.put, List.setIfInBounds_toArray, List.set_cons_zero, List.set_cons_succ]
  refine wpAnyH_take (i := 11) (oi := { dst := some 16, op := Op.load 22 (Operand.tmp 15), type := 22, pos := "ref.go:358", after := #[{ on := 10, ground := Ground.data }, { on := 6, ground := Ground.guard }], guard := some (6, true) }) (v := ?vn9k11) rfl (by kernel_rfl) (by kernel_rfl) (by kernel_rfl) (fun _ _ _ h => h) (Or.inl ⟨by kernel_rfl, ?yn9k11⟩) (by assumption) ?rn9k11
  case yn9k11 => intro w hSw; (try dsimp only at hSw); go_simp; try with_reducible rfl
  try simp only [Act.put, List.setIfInBounds_toArray, List.set_cons_zero, List.set_cons_succ]
  refine wpAnyH_ready (rs := [9]) (by kernel_rfl) (by simp) (AllReadyH.cons (o := { dst := some 14, op := Op.call { callee := Callee.value (Operand.func 24), args := #[Operand.tmp 13], argTypes := #[22] }, type := 52, pos := "ref.go:358", after := #[{ on := 8, ground := Ground.data }, { on := 6, ground := Ground.chain }, { on := 6, ground := Ground.guard }], guard := some (6, true) }) rfl (fun K hK => ?_) AllReadyH.nil)
  go_simp
  refine (S1.out _ BA.out).mono ?_
  rintro e y2 ⟨rfl, rfl⟩
  clear hHeld
  refine hK.out _ _ (BX.out _ BV.out) (fun hHeld => ?_)
  clear hK K
  try simp only [Act.put, List.setIfInBounds_toArray, List.set_cons_zero, List.set_cons_succ]
  refine wpAnyH_ready (rs := [12]) (by kernel_rfl) (by simp) (AllReadyH.cons (o := { dst := some 17, op := Op.call { callee := Callee.value (Operand.func 24), args := #[Operand.tmp 16], argTypes := #[22] }, type := 52, pos := "ref.go:358", after := #[{ on := 11, ground := Ground.data }, { on := 9, ground := Ground.chain }, { on := 6, ground := Ground.guard }], guard := some (6, true) }) rfl (fun K hK => ?_) AllReadyH.nil)
  go_simp
  refine (T1.out _ BA.out).mono ?_
  rintro e y3 ⟨rfl, rfl⟩
  clear hHeld
  refine hK.out _ _ (BX.out _ BV.out) (fun hHeld => ?_)
  clear hK K
  try simp only [Act.put, List.setIfInBounds_toArray, List.set_cons_zero, List.set_cons_succ]
  refine wpAnyH_take (i := 13) (oi := { dst := some 18, op := Op.binOp BinOp.eql 52 (Operand.tmp 14) (Operand.tmp 17) 52, type := 4, pos := "ref.go:358", after := #[{ on := 9, ground := Ground.data }, { on := 12, ground := Ground.data }, { on := 6, ground := Ground.guard }], guard := some (6, true) }) (v := ?vn10k13) rfl (by kernel_rfl) (by kernel_rfl) (by kernel_rfl) (fun _ _ _ h => h) (Or.inl ⟨by kernel_rfl, ?yn10k13⟩) (by assumption) ?rn10k13
  case yn10k13 => intro w hSw; (try dsimp only at hSw); go_simp; try with_reducible rfl
  try simp only [Act.put, List.setIfInBounds_toArray, List.set_cons_zero, List.set_cons_succ]
  refine wpAnyH_take (i := 14) (oi := { dst := some 19, op := Op.pick (Operand.tmp 11) (Operand.tmp 18) (Operand.const (Value.bool false)), type := 4, pos := "ref.go:358", after := #[{ on := 6, ground := Ground.data }, { on := 13, ground := Ground.data }], guard := none }) (v := ?vn11k14) rfl (by kernel_rfl) (by kernel_rfl) (by kernel_rfl) (fun _ _ _ h => h) (Or.inl ⟨by kernel_rfl, ?yn11k14⟩) (by assumption) ?rn11k14
  case yn11k14 => intro w hSw; (try dsimp only at hSw); go_simp; try with_reducible rfl
  try simp only [Act.put, List.setIfInBounds_toArray, List.set_cons_zero, List.set_cons_succ]
  refine wpAnyH_take (i := 15) (oi := { dst := some 20, op := Op.move (Operand.tmp 19), type := 4, pos := "ref.go:358", after := #[{ on := 14, ground := Ground.data }, { on := 12, ground := Ground.chain }], guard := none }) (v := ?vn12k15) rfl (by kernel_rfl) (by kernel_rfl) (by kernel_rfl) (fun _ _ _ h => h) (Or.inl ⟨by kernel_rfl, ?yn12k15⟩) (by assumption) ?rn12k15
  case yn12k15 => intro w hSw; (try dsimp only at hSw); go_simp; try with_reducible rfl
  try simp only [Act.put, List.setIfInBounds_toArray, List.set_cons_zero, List.set_cons_succ]
  refine wpAnyH_take (i := 16) (oi := { dst := some 21, op := Op.fieldAddr 24 (Operand.tmp 2) 1, type := 0, pos := "ref.go:358", after := #[{ on := 15, ground := Ground.guard }], guard := some (15, true) }) (v := undef) rfl (by kernel_rfl) (by kernel_rfl) (by kernel_rfl) (fun _ _ _ h => h) (Or.inr ⟨by kernel_rfl, rfl⟩) (by assumption) ?rn13k16
  try simp only [Act.put, List.setIfInBounds_toArray, List.set_cons_zero, List.set_cons_succ]
  refine wpAnyH_take (i := 17) (oi := { dst := some 22, op := Op.load 22 (Operand.tmp 21), type := 22, pos := "ref.go:358", after := #[{ on := 16, ground := Ground.data }, { on := 15, ground := Ground.guard }], guard := some (15, true) }) (v := undef) rfl (by kernel_rfl) (by kernel_rfl) (by kernel_rfl) (fun _ _ _ h => h) (Or.inr ⟨by kernel_rfl, rfl⟩) (by assumption) ?rn14k17
  try simp only [Act.put, List.setIfInBounds_toArray, List.set_cons_zero, List.set_cons_succ]
  refine wpAnyH_take (i := 18) (oi := { dst := some 23, op := Op.call { callee := Callee.value (Operand.func 24), args := #[Operand.tmp 22], argTypes := #[22] }, type := 52, pos := "ref.go:358", after := #[{ on := 17, ground := Ground.data }, { on := 15, ground := Ground.chain }, { on := 15, ground := Ground.guard }], guard := some (15, true) }) (v := undef) rfl (by kernel_rfl) (by kernel_rfl) (by kernel_rfl) (fun _ _ _ h => h) (Or.inr ⟨by kernel_rfl, rfl⟩) (by assumption) ?rn15k18
  try simp only [Act.put, List.setIfInBounds_toArray, List.set_cons_zero, List.set_cons_succ]
  refine wpAnyH_take (i := 19) (oi := { dst := some 24, op := Op.fieldAddr 24 (Operand.tmp 3) 1, type := 0, pos := "ref.go:358", after := #[{ on := 15, ground := Ground.guard }], guard := some (15, true) }) (v := undef) rfl (by kernel_rfl) (by kernel_rfl) (by kernel_rfl) (fun _ _ _ h => h) (Or.inr ⟨by kernel_rfl, rfl⟩) (by assumption) ?rn16k19
  try simp only [Act.put, List.setIfInBounds_toArray, List.set_cons_zero, List.set_cons_succ]
  refine wpAnyH_take (i := 20) (oi := { dst := some 25, op := Op.load 22 (Operand.tmp 24), type := 22, pos := "ref.go:358", after := #[{ on := 19, ground := Ground.data }, { on := 15, ground := Ground.guard }], guard := some (15, true) }) (v := undef) rfl (by kernel_rfl) (by kernel_rfl) (by kernel_rfl) (fun _ _ _ h => h) (Or.inr ⟨by kernel_rfl, rfl⟩) (by assumption) ?rn17k20
  try simp only [Act.put, List.setIfInBounds_toArray, List.set_cons_zero, List.set_cons_succ]
  refine wpAnyH_take (i := 21) (oi := { dst := some 26, op := Op.call { callee := Callee.value (Operand.func 24), args := #[Operand.tmp 25], argTypes := #[22] }, type := 52, pos := "ref.go:358", after := #[{ on := 20, ground := Ground.data }, { on := 18, ground := Ground.chain }, { on := 15, ground := Ground.guard }], guard := some (15, true) }) (v := undef) rfl (by kernel_rfl) (by kernel_rfl) (by kernel_rfl) (fun _ _ _ h => h) (Or.inr ⟨by kernel_rfl, rfl⟩) (by assumption) ?rn18k21
  try simp only [Act.put, List.setIfInBounds_toArray, List.set_cons_zero, List.set_cons_succ]
  refine wpAnyH_take (i := 22) (oi := { dst := some 27, op := Op.binOp BinOp.eql 52 (Operand.tmp 23) (Operand.tmp 26) 52, type := 4, pos := "ref.go:358", after := #[{ on := 18, ground := Ground.data }, { on := 21, ground := Ground.data }, { on := 15, ground := Ground.guard }], guard := some (15, true) }) (v := undef) rfl (by kernel_rfl) (by kernel_rfl) (by kernel_rfl) (fun _ _ _ h => h) (Or.inr ⟨by kernel_rfl, rfl⟩) (by assumption) ?rn19k22
  try simp only [Act.put, List.setIfInBounds_toArray, List.set_cons_zero, List.set_cons_succ]
  refine wpAnyH_take (i := 23) (oi := { dst := some 28, op := Op.pick (Operand.tmp 20) (Operand.tmp 27) (Operand.const (Value.bool false)), type := 4, pos := "ref.go:358", after := #[{ on := 15, ground := Ground.data }, { on := 22, ground := Ground.data }], guard := none }) (v := ?vn20k23) rfl (by kernel_rfl) (by kernel_rfl) (by kernel_rfl) (fun _ _ _ h => h) (Or.inl ⟨by kernel_rfl, ?yn20k23⟩) (by assumption) ?rn20k23
  case yn20k23 => intro w hSw; (try dsimp only at hSw); go_simp; try with_reducible rfl
  try simp only [Act.put, List.setIfInBounds_toArray, List.set_cons_zero, List.set_cons_succ]
  refine wpAnyH_take (i := 24) (oi := { dst := some 29, op := Op.move (Operand.tmp 28), type := 4, pos := "ref.go:358", after := #[{ on := 23, ground := Ground.data }, { on := 21, ground := Ground.chain }], guard := none }) (v := ?vn21k24) rfl (by kernel_rfl) (by kernel_rfl) (by kernel_rfl) (fun _ _ _ h => h) (Or.inl ⟨by kernel_rfl, ?yn21k24⟩) (by assumption) ?rn21k24
  case yn21k24 => intro w hSw; (try dsimp only at hSw); go_simp; try with_reducible rfl
  try simp only [Act.put, List.setIfInBounds_toArray, List.set_cons_zero, List.set_cons_succ]
  refine wpAnyH_take (i := 25) (oi := { dst := some 30, op := Op.fieldAddr 24 (Operand.tmp 2) 2, type := 0, pos := "ref.go:358", after := #[{ on := 24, ground := Ground.guard }], guard := some (24, true) }) (v := undef) rfl (by kernel_rfl) (by kernel_rfl) (by kernel_rfl) (fun _ _ _ h => h) (Or.inr ⟨by kernel_rfl, rfl⟩) (by assumption) ?rn22k25
  try simp only [Act.put, List.setIfInBounds_toArray, List.set_cons_zero, List.set_cons_succ]
  refine wpAnyH_take (i := 26) (oi := { dst := some 31, op := Op.load 3 (Operand.tmp 30), type := 3, pos := "ref.go:358", after := #[{ on := 25, ground := Ground.data }, { on := 24, ground := Ground.guard }], guard := some (24, true) }) (v := undef) rfl (by kernel_rfl) (by kernel_rfl) (by kernel_rfl) (fun _ _ _ h => h) (Or.inr ⟨by kernel_rfl, rfl⟩) (by assumption) ?rn23k26
  try simp only [Act.put, List.setIfInBounds_toArray, List.set_cons_zero, List.set_cons_succ]
  refine wpAnyH_take (i := 27) (oi := { dst := some 32, op := Op.fieldAddr 24 (Operand.tmp 3) 2, type := 0, pos := "ref.go:358", after := #[{ on := 24, ground := Ground.guard }], guard := some (24, true) }) (v := undef) rfl (by kernel_rfl) (by kernel_rfl) (by kernel_rfl) (fun _ _ _ h => h) (Or.inr ⟨by kernel_rfl, rfl⟩) (by assumption) ?rn24k27
  try simp only [Act.put, List.setIfInBounds_toArray, List.set_cons_zero, List.set_cons_succ]
  refine wpAnyH_take (i := 28) (oi := { dst := some 33, op := Op.load 3 (Operand.tmp 32), type := 3, pos := "ref.go:358", after := #[{ on := 27, ground := Ground.data }, { on := 24, ground := Ground.guard }], guard := some (24, true) }) (v := undef) rfl (by kernel_rfl) (by kernel_rfl) (by kernel_rfl) (fun _ _ _ h => h) (Or.inr ⟨by kernel_rfl, rfl⟩) (by assumption) ?rn25k28
  try simp only [Act.put, List.setIfInBounds_toArray, List.set_cons_zero, List.set_cons_succ]
  refine wpAnyH_take (i := 29) (oi := { dst := some 34, op := Op.binOp BinOp.eql 3 (Operand.tmp 31) (Operand.tmp 33) 3, type := 4, pos := "ref.go:358", after := #[{ on := 26, ground := Ground.data }, { on := 28, ground := Ground.data }, { on := 24, ground := Ground.guard }], guard := some (24, true) }) (v := undef) rfl (by kernel_rfl) (by kernel_rfl) (by kernel_rfl) (fun _ _ _ h => h) (Or.inr ⟨by kernel_rfl, rfl⟩) (by assumption) ?rn26k29
  try simp only [Act.put, List.setIfInBounds_toArray, List.set_cons_zero, List.set_cons_succ]
  refine wpAnyH_take (i := 30) (oi := { dst := some 35, op := Op.pick (Operand.tmp 29) (Operand.tmp 34) (Operand.const (Value.bool false)), type := 4, pos := "ref.go:358", after := #[{ on := 24, ground := Ground.data }, { on := 29, ground := Ground.data }], guard := none }) (v := ?vn27k30) rfl (by kernel_rfl) (by kernel_rfl) (by kernel_rfl) (fun _ _ _ h => h) (Or.inl ⟨by kernel_rfl, ?yn27k30⟩) (by assumption) ?rn27k30
  case yn27k30 => intro w hSw; (try dsimp only at hSw); go_simp; try with_reducible rfl
  try simp only [Act.put, List.setIfInBounds_toArray, List.set_cons_zero, List.set_cons_succ]
  refine wpAnyH_take (i := 31) (oi := { dst := some 36, op := Op.move (Operand.tmp 35), type := 4, pos := "ref.go:358", after := #[{ on := 30, ground := Ground.data }, { on := 24, ground := Ground.chain }], guard := none }) (v := ?vn28k31) rfl (by kernel_rfl) (by kernel_rfl) (by kernel_rfl) (fun _ _ _ h => h) (Or.inl ⟨by kernel_rfl, ?yn28k31⟩) (by assumption) ?rn28k31
  case yn28k31 => intro w hSw; (try dsimp only at hSw); go_simp; try with_reducible rfl
  try simp only [Act.put, List.setIfInBounds_toArray, List.set_cons_zero, List.set_cons_succ]
  refine wpAnyH_take (i := 32) (oi := { dst := some 37, op := Op.fieldAddr 24 (Operand.tmp 2) 3, type := 0, pos := "ref.go:358", after := #[{ on := 31, ground := Ground.guard }], guard := some (31, true) }) (v := undef) rfl (by kernel_rfl) (by kernel_rfl) (by kernel_rfl) (fun _ _ _ h => h) (Or.inr ⟨by kernel_rfl, rfl⟩) (by assumption) ?rn29k32
  try simp only [Act.put, List.setIfInBounds_toArray, List.set_cons_zero, List.set_cons_succ]
  refine wpAnyH_take (i := 33) (oi := { dst := some 38, op := Op.load 3 (Operand.tmp 37), type := 3, pos := "ref.go:358", after := #[{ on := 32, ground := Ground.data }, { on := 31, ground := Ground.guard }], guard := some (31, true) }) (v := undef) rfl (by kernel_rfl) (by kernel_rfl) (by kernel_rfl) (fun _ _ _ h => h) (Or.inr ⟨by kernel_rfl, rfl⟩) (by assumption) ?rn30k33
  try simp only [Act.put, List.setIfInBounds_toArray, List.set_cons_zero, List.set_cons_succ]
  refine wpAnyH_take (i := 34) (oi := { dst := some 39, op := Op.fieldAddr 24 (Operand.tmp 3) 3, type := 0, pos := "ref.go:358", after := #[{ on := 31, ground := Ground.guard }], guard := some (31, true) }) (v := undef) rfl (by kernel_rfl) (by kernel_rfl) (by kernel_rfl) (fun _ _ _ h => h) (Or.inr ⟨by kernel_rfl, rfl⟩) (by assumption) ?rn31k34
  try simp only [Act.put, List.setIfInBounds_toArray, List.set_cons_zero, List.set_cons_succ]
  refine wpAnyH_take (i := 35) (oi := { dst := some 40, op := Op.load 3 (Operand.tmp 39), type := 3, pos := "ref.go:358", after := #[{ on := 34, ground := Ground.data }, { on := 31, ground := Ground.guard }], guard := some (31, true) }) (v := undef) rfl (by kernel_rfl) (by kernel_rfl) (by kernel_rfl) (fun _ _ _ h => h) (Or.inr ⟨by kernel_rfl, rfl⟩) (by assumption) ?rn32k35
  try simp only [Act.put, List.setIfInBounds_toArray, List.set_cons_zero, List.set_cons_succ]
  refine wpAnyH_take (i := 36) (oi := { dst := some 41, op := Op.binOp BinOp.eql 3 (Operand.tmp 38) (Operand.tmp 40) 3, type := 4, pos := "ref.go:358", after := #[{ on := 33, ground := Ground.data }, { on := 35, ground := Ground.data }, { on := 31, ground := Ground.guard }], guard := some (31, true) }) (v := undef) rfl (by kernel_rfl) (by kernel_rfl) (by kernel_rfl) (fun _ _ _ h => h) (Or.inr ⟨by kernel_rfl, rfl⟩) (by assumption) ?rn33k36
  try simp only [Act.put, List.setIfInBounds_toArray, List.set_cons_zero, List.set_cons_succ]
  refine wpAnyH_take (i := 37) (oi := { dst := some 42, op := Op.pick (Operand.tmp 36) (Operand.tmp 41) (Operand.const (Value.bool false)), type := 4, pos := "ref.go:358", after := #[{ on := 31, ground := Ground.data }, { on := 36, ground := Ground.data }], guard := none }) (v := ?vn34k37) rfl (by kernel_rfl) (by kernel_rfl) (by kernel_rfl) (fun _ _ _ h => h) (Or.inl ⟨by kernel_rfl, ?yn34k37⟩) (by assumption) ?rn34k37
  case yn34k37 => intro w hSw; (try dsimp only at hSw); go_simp; try with_reducible rfl
  try simp only [Act.put, List.setIfInBounds_toArray, List.set_cons_zero, List.set_cons_succ]
  refine wpAnyH_take (i := 38) (oi := { dst := some 4, op := Op.assign (Operand.tmp 42), type := 4, pos := "ref.go:358", after := #[{ on := 37, ground := Ground.data }, { on := 31, ground := Ground.chain }, { on := 0, ground := Ground.phase }, { on := 1, ground := Ground.phase }, { on := 2, ground := Ground.phase }, { on := 3, ground := Ground.phase }, { on := 4, ground := Ground.phase }, { on := 5, ground := Ground.phase }, { on := 6, ground := Ground.phase }, { on := 7, ground := Ground.phase }, { on := 8, ground := Ground.phase }, { on := 9, ground := Ground.phase }, { on := 10, ground := Ground.phase }, { on := 11, ground := Ground.phase }, { on := 12, ground := Ground.phase }, { on := 13, ground := Ground.phase }, { on := 14, ground := Ground.phase }, { on := 15, ground := Ground.phase }, { on := 16, ground := Ground.phase }, { on := 17, ground := Ground.phase }, { on := 18, ground := Ground.phase }, { on := 19, ground := Ground.phase }, { on := 20, ground := Ground.phase }, { on := 21, ground := Ground.phase }, { on := 22, ground := Ground.phase }, { on := 23, ground := Ground.phase }, { on := 24, ground := Ground.phase }, { on := 25, ground := Ground.phase }, { on := 26, ground := Ground.phase }, { on := 27, ground := Ground.phase }, { on := 28, ground := Ground.phase }, { on := 29, ground := Ground.phase }, { on := 30, ground := Ground.phase }, { on := 31, ground := Ground.phase }, { on := 32, ground := Ground.phase }, { on := 33, ground := Ground.phase }, { on := 34, ground := Ground.phase }, { on := 35, ground := Ground.phase }, { on := 36, ground := Ground.phase }, { on := 37, ground := Ground.phase }], guard := none }) (v := ?vn35k38) rfl (by kernel_rfl) (by kernel_rfl) (by kernel_rfl) (fun _ _ _ h => h) (Or.inl ⟨by kernel_rfl, ?yn35k38⟩) (by assumption) ?rn35k38
  case yn35k38 => intro w hSw; (try dsimp only at hSw); go_simp; try with_reducible rfl
  try simp only [Act.put, List.setIfInBounds_toArray, List.set_cons_zero, List.set_cons_succ]
  refine wpAnyH_done (by kernel_rfl) ?_ _
  go_wp2_with fail
  go_ret
  exact ⟨rfl, BA.out⟩
set_option maxRecDepth 100000 in
set_option maxHeartbeats 8000000 in
theorem Same_c1 (lo hi lo' hi' : List Int) (mn mx mn' mx' : Int) (A B A' B' : Option Addr) (c1 c2 c1' c2' : Nat) (w : World) (ha : Ints w A lo) (hb : Ints w B hi) (ha' : Ints w A' lo') (hb' : Ints w B' hi') (hV : validFB lo hi mn mx = true) (hV' : validFB lo' hi' mn' mx' = true) (h1 : ((setN lo : Int) == (setN lo' : Int)) = true) (h2 : ((setN hi : Int) == (setN hi' : Int)) = false) :
    Calls Tryz.prog 10 #[.agg #[.slice A lo.length c1, .slice B hi.length c2, .int .i64 mn, .int .i64 mx], .agg #[.slice A' lo'.length c1', .slice B' hi'.length c2', .int .i64 mn', .int .i64 mx']] w fun e w' => e = .returned (.bool false) ∧ Below w.heap.size w w' := by
  have VP := Lib.hid (fun w1 (h : Below w.heap.size w w1) => FValid_r_any lo hi mn mx A B c1 c2 w1 (ha.over h) (hb.over h))
  have VQ := Lib.hid (fun w1 (h : Below w.heap.size w w1) => FValid_r_any lo' hi' mn' mx' A' B' c1' c2' w1 (ha'.over h) (hb'.over h))
  rw [hV] at VP
  rw [hV'] at VQ
  obtain ⟨hr1, hr2⟩ : lo.all inR = true ∧ hi.all inR = true := by
    unfold validFB elemsB at hV
    simp only [Bool.and_eq_true] at hV
    exact ⟨hV.1.1.1.2, hV.1.1.2.2⟩
  obtain ⟨hr3, hr4⟩ : lo'.all inR = true ∧ hi'.all inR = true := by
    unfold validFB elemsB at hV'
    simp only [Bool.and_eq_true] at hV'
    exact ⟨hV'.1.1.1.2, hV'.1.1.2.2⟩
  have S1 := Lib.hid (fun w1 (h : Below w.heap.size w w1) => rof_any lo A c1 w1 (ha.over h) hr1)
  have S2 := Lib.hid (fun w1 (h : Below w.heap.size w w1) => rof_any hi B c2 w1 (hb.over h) hr2)
  have T1 := Lib.hid (fun w1 (h : Below w.heap.size w w1) => rof_any lo' A' c1' w1 (ha'.over h) hr3)
  have T2 := Lib.hid (fun w1 (h : Below w.heap.size w w1) => rof_any hi' B' c2' w1 (hb'.over h) hr4)
  have hl1 := ha.1
  have hl2 := hb.1
  have hl3 := ha'.1
  have hl4 := hb'.1
  clear ha hb ha' hb' hV hV' hr1 hr2 hr3 hr4
  generalize lo.length = n1 at *
  generalize hi.length = n2 at *
  generalize lo'.length = n1' at *
  generalize hi'.length = n2' at *
  generalize setN lo = L at *
  generalize setN hi = H at *
  generalize setN lo' = L' at *
  generalize setN hi' = H' at *
  have BA := Lib.hid (show Below w.heap.size w ((w.alloc (.cells #[.slice A n1 c1, .slice B n2 c2, .int .i64 mn, .int .i64 mx] 24)).alloc (.cells #[.slice A' n1' c1', .slice B' n2' c2', .int .i64 mn', .int .i64 mx'] 24)) from ((Below.refl _ w).alloc (Nat.le_refl _) _).alloc (by simp) _)
  have BX := Lib.hid (show ∀ wx : World, Below (w.heap.size + 2) ((w.alloc (.cells #[.slice A n1 c1, .slice B n2 c2, .int .i64 mn, .int .i64 mx] 24)).alloc (.cells #[.slice A' n1' c1', .slice B' n2' c2', .int .i64 mn', .int .i64 mx'] 24)) wx → wx.cell? ⟨w.heap.size, 0, none⟩ = some (.slice A n1 c1) ∧ wx.cell? ⟨w.heap.size, 1, none⟩ = some (.slice B n2 c2) ∧ wx.cell? ⟨w.heap.size, 2, none⟩ = some (.int .i64 mn) ∧ wx.cell? ⟨w.heap.size, 3, none⟩ = some (.int .i64 mx) ∧ wx.cell? ⟨w.heap.size + 1, 0, none⟩ = some (.slice A' n1' c1') ∧ wx.cell? ⟨w.heap.size + 1, 1, none⟩ = some (.slice B' n2' c2') ∧ wx.cell? ⟨w.heap.size + 1, 2, none⟩ = some (.int .i64 mn') ∧ wx.cell? ⟨w.heap.size + 1, 3, none⟩ = some (.int .i64 mx') from fun wx h => by
    have hh := (h.block w.heap.size (by omega)).trans (heap_alloc2_old w (.cells #[.slice A n1 c1, .slice B n2 c2, .int .i64 mn, .int .i64 mx] 24) _)
    have hk := (h.block (w.heap.size + 1) (by omega)).trans (heap_alloc2_new w _ (.cells #[.slice A' n1' c1', .slice B' n2' c2', .int .i64 mn', .int .i64 mx'] 24))
    refine ⟨?_, ?_, ?_, ?_, ?_, ?_, ?_, ?_⟩ <;> (simp only [World.cell?, hh, hk]; rfl))
  have hz : w.heap.size + 2 ≤ ((w.alloc (.cells #[.slice A n1 c1, .slice B n2 c2, .int .i64 mn, .int .i64 mx] 24)).alloc (.cells #[.slice A' n1' c1', .slice B' n2' c2', .int .i64 mn', .int .i64 mx'] 24)).heap.size := by simp
  go_enter Tryz.func10, Tryz.ntmps10
  go_wp2_with fail
  generalize ((w.alloc (.cells #[.slice A n1 c1, .slice B n2 c2, .int .i64 mn, .int .i64 mx] 24)).alloc (.cells #[.slice A' n1' c1', .slice B' n2' c2', .int .i64 mn', .int .i64 mx'] 24)) = W at *
  have S0 : (fun wx : World => wx.cell? ⟨w.heap.size, 0, none⟩ = some (.slice A n1 c1) ∧ wx.cell? ⟨w.heap.size, 1, none⟩ = some (.slice B n2 c2) ∧ wx.cell? ⟨w.heap.size, 2, none⟩ = some (.int .i64 mn) ∧ wx.cell? ⟨w.heap.size, 3, none⟩ = some (.int .i64 mx) ∧ wx.cell? ⟨w.heap.size + 1, 0, none⟩ = some (.slice A' n1' c1') ∧ wx.cell? ⟨w.heap.size + 1, 1, none⟩ = some (.slice B' n2' c2') ∧ wx.cell? ⟨w.heap.size + 1, 2, none⟩ = some (.int .i64 mn') ∧ wx.cell? ⟨w.heap.size + 1, 3, none⟩ = some (.int .i64 mx')) W.drew := BX.out _ (Below.refl _ W).drew
  have BV := Lib.hid (show Below (w.heap.size + 2) W W.drew from (Below.refl _ W).drew)
  replace BA := Lib.hid (show Below w.heap.size w W.drew from BA.out.drew)
  have hvs : w.heap.size + 2 ≤ W.drew.heap.size := hz
  refine wp_region_held_drew (S := fun (wx : World) => wx.cell? ⟨w.heap.size, 0, none⟩ = some (.slice A n1 c1) ∧ wx.cell? ⟨w.heap.size, 1, none⟩ = some (.slice B n2 c2) ∧ wx.cell? ⟨w.heap.size, 2, none⟩ = some (.int .i64 mn) ∧ wx.cell? ⟨w.heap.size, 3, none⟩ = some (.int .i64 mx) ∧ wx.cell? ⟨w.heap.size + 1, 0, none⟩ = some (.slice A' n1' c1') ∧ wx.cell? ⟨w.heap.size + 1, 1, none⟩ = some (.slice B' n2' c2') ∧ wx.cell? ⟨w.heap.size + 1, 2, none⟩ = some (.int .i64 mn') ∧ wx.cell? ⟨w.heap.size + 1, 3, none⟩ = some (.int .i64 mx')) (by kernel_rfl) S0 (fun hHeld => ?_)
  clear S0 hz
  generalize W.drew = V at *
  refine wpAnyH_take (i := 0) (oi := { dst := some 5, op := Op.load 24 (Operand.tmp 2), type := 24, pos := "ref.go:358", after := #[], guard := none }) (v := ?vn36k0) rfl (by kernel_rfl) (by kernel_rfl) (by kernel_rfl) (fun _ _ _ h => h) (Or.inl ⟨by kernel_rfl, ?yn36k0⟩) (by assumption) ?rn36k0
  case yn36k0 => intro w hSw; (try dsimp only at hSw); go_simp; try with_reducible rfl
  try simp only [Act.put, List.setIfInBounds_toArray, List.set_cons_zero, List.set_cons_succ]
  refine wpAnyH_ready (rs := [1]) (by kernel_rfl) (by simp) (AllReadyH.cons (o := { dst := some 6, op := Op.call { callee := Callee.value (Operand.func 23), args := #[Operand.tmp 5], argTypes := #[24] }, type := 4, pos := "ref.go:358", after := #[{ on := 0, ground := Ground.data }], guard := none }) rfl (fun K hK => ?_) AllReadyH.nil)
  go_simp
  refine (VP.out _ BA.out).mono ?_
  rintro e y0 ⟨rfl, hb⟩
  replace BV := Lib.hid (BV.out.trans (hb.mono hvs))
  replace BA := Lib.hid (BA.out.trans (hb.mono BA.out.size))
  replace hvs : w.heap.size + 2 ≤ y0.heap.size := Nat.le_trans hvs hb.size
  clear hb hHeld
  refine hK.out _ _ (BX.out _ BV.out) (fun hHeld => ?_)
  clear hK K
  try simp only [Act.put, List.setIfInBounds_toArray, List.set_cons_zero, List.set_cons_succ]
  refine wpAnyH_take (i := 2) (oi := { dst := some 7, op := Op.move (Operand.tmp 6), type := 4, pos := "ref.go:358", after := #[{ on := 1, ground := Ground.data }, { on := 1, ground := Ground.chain }], guard := none }) (v := ?vn37k2) rfl (by kernel_rfl) (by kernel_rfl) (by kernel_rfl) (fun _ _ _ h => h) (Or.inl ⟨by kernel_rfl, ?yn37k2⟩) (by assumption) ?rn37k2
  case yn37k2 => intro w hSw; (try dsimp only at hSw); go_simp; try with_reducible rfl
  try simp only [Act.put, List.setIfInBounds_toArray, List.set_cons_zero, List.set_cons_succ]
  refine wpAnyH_take (i := 3) (oi := { dst := some 8, op := Op.load 24 (Operand.tmp 3), type := 24, pos := "ref.go:358", after := #[{ on := 2, ground := Ground.guard }], guard := some (2, true) }) (v := ?vn38k3) rfl (by kernel_rfl) (by kernel_rfl) (by kernel_rfl) (fun _ _ _ h => h) (Or.inl ⟨by kernel_rfl, ?yn38k3⟩) (by assumption) ?rn38k3
  case yn38k3 => intro w hSw; (try dsimp only at hSw); go_simp; try with_reducible rfl
  try simp only [Act.put, List.setIfInBounds_toArray, List.set_cons_zero, List.set_cons_succ]
  refine wpAnyH_ready (rs := [4]) (by kernel_rfl) (by simp) (AllReadyH.cons (o := { dst := some 9, op := Op.call { callee := Callee.value (Operand.func 23), args := #[Operand.tmp 8], argTypes := #[24] }, type := 4, pos := "ref.go:358", after := #[{ on := 3, ground := Ground.data }, { on := 2, ground := Ground.chain }, { on := 2, ground := Ground.guard }], guard := some (2, true) }) rfl (fun K hK => ?_) AllReadyH.nil)
  go_simp
  refine (VQ.out _ BA.out).mono ?_
  rintro e y1 ⟨rfl, hb⟩
  replace BV := Lib.hid (BV.out.trans (hb.mono hvs))
  replace BA := Lib.hid (BA.out.trans (hb.mono BA.out.size))
  replace hvs : w.heap.size + 2 ≤ y1.heap.size := Nat.le_trans hvs hb.size
  clear hb hHeld
  refine hK.out _ _ (BX.out _ BV.out) (fun hHeld => ?_)
  clear hK K
  try simp only [Act.put, List.setIfInBounds_toArray, List.set_cons_zero, List.set_cons_succ]
  refine wpAnyH_take (i := 5) (oi := { dst := some 10, op := Op.pick (Operand.tmp 7) (Operand.tmp 9) (Operand.const (Value.bool false)), type := 4, pos := "ref.go:358", after := #[{ on := 2, ground := Ground.data }, { on := 4, ground := Ground.data }], guard := none }) (v := ?vn39k5) rfl (by kernel_rfl) (by kernel_rfl) (by kernel_rfl) (fun _ _ _ h => h) (Or.inl ⟨by kernel_rfl, ?yn39k5⟩) (by assumption) ?rn39k5
  case yn39k5 => intro w hSw; (try dsimp only at hSw); go_simp; try with_reducible rfl
  try simp only [Act.put, List.setIfInBounds_toArray, List.set_cons_zero, List.set_cons_succ]
  refine wpAnyH_take (i := 6) (oi := { dst := some 11, op := Op.move (Operand.tmp 10), type := 4, pos := "ref.go:358", after := #[{ on := 5, ground := Ground.data }, { on := 4, ground := Ground.chain }], guard := none }) (v := ?vn40k6) rfl (by kernel_rfl) (by kernel_rfl) (by kernel_rfl) (fun _ _ _ h => h) (Or.inl ⟨by kernel_rfl, ?yn40k6⟩) (by assumption) ?rn40k6
  case yn40k6 => intro w hSw; (try dsimp only at hSw); go_simp; try with_reducible rfl
  try simp only [Act.put, List.setIfInBounds_toArray, List.set_cons_zero, List.set_cons_succ]
  refine wpAnyH_take (i := 7) (oi := { dst := some 12, op := Op.fieldAddr 24 (Operand.tmp 2) 0, type := 0, pos := "ref.go:358", after := #[{ on := 6, ground := Ground.guard }], guard := some (6, true) }) (v := ?vn41k7) rfl (by kernel_rfl) (by kernel_rfl) (by kernel_rfl) (fun _ _ _ h => h) (Or.inl ⟨by kernel_rfl, ?yn41k7⟩) (by assumption) ?rn41k7
  case yn41k7 => intro w hSw; (try dsimp only at hSw); go_simp; try with_reducible rfl
  try simp only [Act.put, List.setIfInBounds_toArray, List.set_cons_zero, List.set_cons_succ]
  refine wpAnyH_take (i := 8) (oi := { dst := some 13, op := Op.load 22 (Operand.tmp 12), type := 22, pos := "ref.go:358", after := #[{ on := 7, ground := Ground.data }, { on := 6, ground := Ground.guard }], guard := some (6, true) }) (v := ?vn42k8) rfl (by kernel_rfl) (by kernel_rfl) (by kernel_rfl) (fun _ _ _ h => h) (Or.inl ⟨by kernel_rfl, ?yn42k8⟩) (by assumption) ?rn42k8
  case yn42k8 => intro w hSw; (try dsimp only at hSw); go_simp; try with_reducible rfl
  try simp only [Act.put, List.setIfInBounds_toArray, List.set_cons_zero, List.set_cons_succ]
  refine wpAnyH_take (i := 10) (oi := { dst := some 15, op := Op.fieldAddr 24 (Operand.tmp 3) 0, type := 0, pos := "ref.go:358", after := #[{ on := 6, ground := Ground.guard }], guard := some (6, true) }) (v := ?vn43k10) rfl (by kernel_rfl) (by kernel_rfl) (by kernel_rfl) (fun _ _ _ h => h) (Or.inl ⟨by kernel_rfl, ?yn43k10⟩) (by assumption) ?rn43k10
  case yn43k10 => intro w hSw; (try dsimp only at hSw); go_simp; try with_reducible rfl
  try simp only [Act.put, List.setIfInBounds_toArray, List.set_cons_zero, List.set_cons_succ]
  refine wpAnyH_take (i := 11) (oi := { dst := some 16, op := Op.load 22 (Operand.tmp 15), type := 22, pos := "ref.go:358", after := #[{ on := 10, ground := Ground.data }, { on := 6, ground := Ground.guard }], guard := some (6, true) }) (v := ?vn44k11) rfl (by kernel_rfl) (by kernel_rfl) (by kernel_rfl) (fun _ _ _ h => h) (Or.inl ⟨by kernel_rfl, ?yn44k11⟩) (by assumption) ?rn44k11
  case yn44k11 => intro w hSw; (try dsimp only at hSw); go_simp; try with_reducible rfl
  try simp only [Act.put, List.setIfInBounds_toArray, List.set_cons_zero, List.set_cons_succ]
  refine wpAnyH_ready (rs := [9]) (by kernel_rfl) (by simp) (AllReadyH.cons (o := { dst := some 14, op := Op.call { callee := Callee.value (Operand.func 24), args := #[Operand.tmp 13], argTypes := #[22] }, type := 52, pos := "ref.go:358", after := #[{ on := 8, ground := Ground.data }, { on := 6, ground := Ground.chain }, { on := 6, ground := Ground.guard }], guard := some (6, true) }) rfl (fun K hK => ?_) AllReadyH.nil)
  go_simp
  refine (S1.out _ BA.out).mono ?_
  rintro e y2 ⟨rfl, rfl⟩
  clear hHeld
  refine hK.out _ _ (BX.out _ BV.out) (fun hHeld => ?_)
  clear hK K
  try simp only [Act.put, List.setIfInBounds_toArray, List.set_cons_zero, List.set_cons_succ]
  refine wpAnyH_ready (rs := [12]) (by kernel_rfl) (by simp) (AllReadyH.cons (o := { dst := some 17, op := Op.call { callee := Callee.value (Operand.func 24), args := #[Operand.tmp 16], argTypes := #[22] }, type := 52, pos := "ref.go:358", after := #[{ on := 11, ground := Ground.data }, { on := 9, ground := Ground.chain }, { on := 6, ground := Ground.guard }], guard := some (6, true) }) rfl (fun K hK => ?_) AllReadyH.nil)
  go_simp
  refine (T1.out _ BA.out).mono ?_
  rintro e y3 ⟨rfl, rfl⟩
  clear hHeld
  refine hK.out _ _ (BX.out _ BV.out) (fun hHeld => ?_)
  clear hK K
  try simp only [Act.put, List.setIfInBounds_toArray, List.set_cons_zero, List.set_cons_succ]
  refine wpAnyH_take (i := 13) (oi := { dst := some 18, op := Op.binOp BinOp.eql 52 (Operand.tmp 14) (Operand.tmp 17) 52, type := 4, pos := "ref.go:358", after := #[{ on := 9, ground := Ground.data }, { on := 12, ground := Ground.data }, { on := 6, ground := Ground.guard }], guard := some (6, true) }) (v := ?vn45k13) rfl (by kernel_rfl) (by kernel_rfl) (by kernel_rfl) (fun _ _ _ h => h) (Or.inl ⟨by kernel_rfl, ?yn45k13⟩) (by assumption) ?rn45k13
  case yn45k13 => intro w hSw; (try dsimp only at hSw); go_simp; try with_reducible rfl
  try simp only [Act.put, List.setIfInBounds_toArray, List.set_cons_zero, List.set_cons_succ]
  refine wpAnyH_take (i := 14) (oi := { dst := some 19, op := Op.pick (Operand.tmp 11) (Operand.tmp 18) (Operand.const (Value.bool false)), type := 4, pos := "ref.go:358", after := #[{ on := 6, ground := Ground.data }, { on := 13, ground := Ground.data }], guard := none }) (v := ?vn46k14) rfl (by kernel_rfl) (by kernel_rfl) (by kernel_rfl) (fun _ _ _ h => h) (Or.inl ⟨by kernel_rfl, ?yn46k14⟩) (by assumption) ?rn46k14
  case yn46k14 => intro w hSw; (try dsimp only at hSw); go_simp; try with_reducible rfl
  try simp only [Act.put, List.setIfInBounds_toArray, List.set_cons_zero, List.set_cons_succ]
  refine wpAnyH_take (i := 15) (oi := { dst := some 20, op := Op.move (Operand.tmp 19), type := 4, pos := "ref.go:358", after := #[{ on := 14, ground := Ground.data }, { on := 12, ground := Ground.chain }], guard := none }) (v := ?vn47k15) rfl (by kernel_rfl) (by kernel_rfl) (by kernel_rfl) (fun _ _ _ h => h) (Or.inl ⟨by kernel_rfl, ?yn47k15⟩) (by assumption) ?rn47k15
  case yn47k15 => intro w hSw; (try dsimp only at hSw); go_simp; try with_reducible rfl
  try simp only [Act.put, List.setIfInBounds_toArray, List.set_cons_zero, List.set_cons_succ]
  refine wpAnyH_take (i := 16) (oi := { dst := some 21, op := Op.fieldAddr 24 (Operand.tmp 2) 1, type := 0, pos := "ref.go:358", after := #[{ on := 15, ground := Ground.guard }], guard := some (15, true) }) (v := ?vn48k16) rfl (by kernel_rfl) (by kernel_rfl) (by kernel_rfl) (fun _ _ _ h => h) (Or.inl ⟨by kernel_rfl, ?yn48k16⟩) (by assumption) ?rn48k16
  case yn48k16 => intro w hSw; (try dsimp only at hSw); go_simp; try with_reducible rfl
  try simp only [Act.put, List.setIfInBounds_toArray, List.set_cons_zero, List.set_cons_succ]
  refine wpAnyH_take (i := 17) (oi := { dst := some 22, op := Op.load 22 (Operand.tmp 21), type := 22, pos := "ref.go:358", after := #[{ on := 16, ground := Ground.data }, { on := 15, ground := Ground.guard }], guard := some (15, true) }) (v := ?vn49k17) rfl (by kernel_rfl) (by kernel_rfl) (by kernel_rfl) (fun _ _ _ h => h) (Or.inl ⟨by kernel_rfl, ?yn49k17⟩) (by assumption) ?rn49k17
  case yn49k17 => intro w hSw; (try dsimp only at hSw); go_simp; try with_reducible rfl
  try simp only [Act.put, List.setIfInBounds_toArray, List.set_cons_zero, List.set_cons_succ]
  refine wpAnyH_take (i := 19) (oi := { dst := some 24, op := Op.fieldAddr 24 (Operand.tmp 3) 1, type := 0, pos := "ref.go:358", after := #[{ on := 15, ground := Ground.guard }], guard := some (15, true) }) (v := ?vn50k19) rfl (by kernel_rfl) (by kernel_rfl) (by kernel_rfl) (fun _ _ _ h => h) (Or.inl ⟨by kernel_rfl, ?yn50k19⟩) (by assumption) ?rn50k19
  case yn50k19 => intro w hSw; (try dsimp only at hSw); go_simp; try with_reducible rfl
  try simp only [Act.put, List.setIfInBounds_toArray, List.set_cons_zero, List.set_cons_succ]
  refine wpAnyH_take (i := 20) (oi := { dst := some 25, op := Op.load 22 (Operand.tmp 24), type := 22, pos := "ref.go:358", after := #[{ on := 19, ground := Ground.data }, { on := 15, ground := Ground.guard }], guard := some (15, true) }) (v := ?vn51k20) rfl (by kernel_rfl) (by kernel_rfl) (by kernel_rfl) (fun _ _ _ h => h) (Or.inl ⟨by kernel_rfl, ?yn51k20⟩) (by assumption) ?rn51k20
  case yn51k20 => intro w hSw; (try dsimp only at hSw); go_simp; try with_reducible rfl
  try simp only [Act.put, List.setIfInBounds_toArray, List.set_cons_zero, List.set_cons_succ]
  refine wpAnyH_ready (rs := [18]) (by kernel_rfl) (by simp) (AllReadyH.cons (o := { dst := some 23, op := Op.call { callee := Callee.value (Operand.func 24), args := #[Operand.tmp 22], argTypes := #[22] }, type := 52, pos := "ref.go:358", after := #[{ on := 17, ground := Ground.data }, { on := 15, ground := Ground.chain }, { on := 15, ground := Ground.guard }], guard := some (15, true) }) rfl (fun K hK => ?_) AllReadyH.nil)
  go_simp
  refine (S2.out _ BA.out).mono ?_
  rintro e y4 ⟨rfl, rfl⟩
  clear hHeld
  refine hK.out _ _ (BX.out _ BV.out) (fun hHeld => ?_)
  clear hK K
  try simp only [Act.put, List.setIfInBounds_toArray, List.set_cons_zero, List.set_cons_succ]
  refine wpAnyH_ready (rs := [21]) (by kernel_rfl) (by simp) (AllReadyH.cons (o := { dst := some 26, op := Op.call { callee := Callee.value (Operand.func 24), args := #[Operand.tmp 25], argTypes := #[22] }, type := 52, pos := "ref.go:358", after := #[{ on := 20, ground := Ground.data }, { on := 18, ground := Ground.chain }, { on := 15, ground := Ground.guard }], guard := some (15, true) }) rfl (fun K hK => ?_) AllReadyH.nil)
  go_simp
  refine (T2.out _ BA.out).mono ?_
  rintro e y5 ⟨rfl, rfl⟩
  clear hHeld
  refine hK.out _ _ (BX.out _ BV.out) (fun hHeld => ?_)
  clear hK K
  try simp only [Act.put, List.setIfInBounds_toArray, List.set_cons_zero, List.set_cons_succ]
  refine wpAnyH_take (i := 22) (oi := { dst := some 27, op := Op.binOp BinOp.eql 52 (Operand.tmp 23) (Operand.tmp 26) 52, type := 4, pos := "ref.go:358", after := #[{ on := 18, ground := Ground.data }, { on := 21, ground := Ground.data }, { on := 15, ground := Ground.guard }], guard := some (15, true) }) (v := ?vn52k22) rfl (by kernel_rfl) (by kernel_rfl) (by kernel_rfl) (fun _ _ _ h => h) (Or.inl ⟨by kernel_rfl, ?yn52k22⟩) (by assumption) ?rn52k22
  case yn52k22 => intro w hSw; (try dsimp only at hSw); go_simp; try with_reducible rfl
  try simp only [Act.put, List.setIfInBounds_toArray, List.set_cons_zero, List.set_cons_succ]
  refine wpAnyH_take (i := 23) (oi := { dst := some 28, op := Op.pick (Operand.tmp 20) (Operand.tmp 27) (Operand.const (Value.bool false)), type := 4, pos := "ref.go:358", after := #[{ on := 15, ground := Ground.data }, { on := 22, ground := Ground.data }], guard := none }) (v := ?vn53k23) rfl (by kernel_rfl) (by kernel_rfl) (by kernel_rfl) (fun _ _ _ h => h) (Or.inl ⟨by kernel_rfl, ?yn53k23⟩) (by assumption) ?rn53k23
  case yn53k23 => intro w hSw; (try dsimp only at hSw); go_simp; try with_reducible rfl
  try simp only [Act.put, List.setIfInBounds_toArray, List.set_cons_zero, List.set_cons_succ]
  refine wpAnyH_take (i := 24) (oi := { dst := some 29, op := Op.move (Operand.tmp 28), type := 4, pos := "ref.go:358", after := #[{ on := 23, ground := Ground.data }, { on := 21, ground := Ground.chain }], guard := none }) (v := ?vn54k24) rfl (by kernel_rfl) (by kernel_rfl) (by kernel_rfl) (fun _ _ _ h => h) (Or.inl ⟨by kernel_rfl, ?yn54k24⟩) (by assumption) ?rn54k24
  case yn54k24 => intro w hSw; (try dsimp only at hSw); go_simp; try with_reducible rfl
  try simp only [Act.put, List.setIfInBounds_toArray, List.set_cons_zero, List.set_cons_succ]
  refine wpAnyH_take (i := 25) (oi := { dst := some 30, op := Op.fieldAddr 24 (Operand.tmp 2) 2, type := 0, pos := "ref.go:358", after := #[{ on := 24, ground := Ground.guard }], guard := some (24, true) }) (v := undef) rfl (by kernel_rfl) (by kernel_rfl) (by kernel_rfl) (fun _ _ _ h => h) (Or.inr ⟨by kernel_rfl, rfl⟩) (by assumption) ?rn55k25
  try simp only [Act.put, List.setIfInBounds_toArray, List.set_cons_zero, List.set_cons_succ]
  refine wpAnyH_take (i := 26) (oi := { dst := some 31, op := Op.load 3 (Operand.tmp 30), type := 3, pos := "ref.go:358", after := #[{ on := 25, ground := Ground.data }, { on := 24, ground := Ground.guard }], guard := some (24, true) }) (v := undef) rfl (by kernel_rfl) (by kernel_rfl) (by kernel_rfl) (fun _ _ _ h => h) (Or.inr ⟨by kernel_rfl, rfl⟩) (by assumption) ?rn56k26
  try simp only [Act.put, List.setIfInBounds_toArray, List.set_cons_zero, List.set_cons_succ]
  refine wpAnyH_take (i := 27) (oi := { dst := some 32, op := Op.fieldAddr 24 (Operand.tmp 3) 2, type := 0, pos := "ref.go:358", after := #[{ on := 24, ground := Ground.guard }], guard := some (24, true) }) (v := undef) rfl (by kernel_rfl) (by kernel_rfl) (by kernel_rfl) (fun _ _ _ h => h) (Or.inr ⟨by kernel_rfl, rfl⟩) (by assumption) ?rn57k27
  try simp only [Act.put, List.setIfInBounds_toArray, List.set_cons_zero, List.set_cons_succ]
  refine wpAnyH_take (i := 28) (oi := { dst := some 33, op := Op.load 3 (Operand.tmp 32), type := 3, pos := "ref.go:358", after := #[{ on := 27, ground := Ground.data }, { on := 24, ground := Ground.guard }], guard := some (24, true) }) (v := undef) rfl (by kernel_rfl) (by kernel_rfl) (by kernel_rfl) (fun _ _ _ h => h) (Or.inr ⟨by kernel_rfl, rfl⟩) (by assumption) ?rn58k28
  try simp only [Act.put, List.setIfInBounds_toArray, List.set_cons_zero, List.set_cons_succ]
  refine wpAnyH_take (i := 29) (oi := { dst := some 34, op := Op.binOp BinOp.eql 3 (Operand.tmp 31) (Operand.tmp 33) 3, type := 4, pos := "ref.go:358", after := #[{ on := 26, ground := Ground.data }, { on := 28, ground := Ground.data }, { on := 24, ground := Ground.guard }], guard := some (24, true) }) (v := undef) rfl (by kernel_rfl) (by kernel_rfl) (by kernel_rfl) (fun _ _ _ h => h) (Or.inr ⟨by kernel_rfl, rfl⟩) (by assumption) ?rn59k29
  try simp only [Act.put, List.setIfInBounds_toArray, List.set_cons_zero, List.set_cons_succ]
  refine wpAnyH_take (i := 30) (oi := { dst := some 35, op := Op.pick (Operand.tmp 29) (Operand.tmp 34) (Operand.const (Value.bool false)), type := 4, pos := "ref.go:358", after := #[{ on := 24, ground := Ground.data }, { on := 29, ground := Ground.data }], guard := none }) (v := ?vn60k30) rfl (by kernel_rfl) (by kernel_rfl) (by kernel_rfl) (fun _ _ _ h => h) (Or.inl ⟨by kernel_rfl, ?yn60k30⟩) (by assumption) ?rn60k30
  case yn60k30 => intro w hSw; (try dsimp only at hSw); go_simp; try with_reducible rfl
  try simp only [Act.put, List.setIfInBounds_toArray, List.set_cons_zero, List.set_cons_succ]
  refine wpAnyH_take (i := 31) (oi := { dst := some 36, op := Op.move (Operand.tmp 35), type := 4, pos := "ref.go:358", after := #[{ on := 30, ground := Ground.data }, { on := 24, ground := Ground.chain }], guard := none }) (v := ?vn61k31) rfl (by kernel_rfl) (by kernel_rfl) (by kernel_rfl) (fun _ _ _ h => h) (Or.inl ⟨by kernel_rfl, ?yn61k31⟩) (by assumption) ?rn61k31
  case yn61k31 => intro w hSw; (try dsimp only at hSw); go_simp; try with_reducible rfl
  try simp only [Act.put, List.setIfInBounds_toArray, List.set_cons_zero, List.set_cons_succ]
  refine wpAnyH_take (i := 32) (oi := { dst := some 37, op := Op.fieldAddr 24 (Operand.tmp 2) 3, type := 0, pos := "ref.go:358", after := #[{ on := 31, ground := Ground.guard }], guard := some (31, true) }) (v := undef) rfl (by kernel_rfl) (by kernel_rfl) (by kernel_rfl) (fun _ _ _ h => h) (Or.inr ⟨by kernel_rfl, rfl⟩) (by assumption) ?rn62k32
  try simp only [Act.put, List.setIfInBounds_toArray, List.set_cons_zero, List.set_cons_succ]
  refine wpAnyH_take (i := 33) (oi := { dst := some 38, op := Op.load 3 (Operand.tmp 37), type := 3, pos := "ref.go:358", after := #[{ on := 32, ground := Ground.data }, { on := 31, ground := Ground.guard }], guard := some (31, true) }) (v := undef) rfl (by kernel_rfl) (by kernel_rfl) (by kernel_rfl) (fun _ _ _ h => h) (Or.inr ⟨by kernel_rfl, rfl⟩) (by assumption) ?rn63k33
  try simp only [Act.put, List.setIfInBounds_toArray, List.set_cons_zero, List.set_cons_succ]
  refine wpAnyH_take (i := 34) (oi := { dst := some 39, op := Op.fieldAddr 24 (Operand.tmp 3) 3, type := 0, pos := "ref.go:358", after := #[{ on := 31, ground := Ground.guard }], guard := some (31, true) }) (v := undef) rfl (by kernel_rfl) (by kernel_rfl) (by kernel_rfl) (fun _ _ _ h => h) (Or.inr ⟨by kernel_rfl, rfl⟩) (by assumption) ?rn64k34
  try simp only [Act.put, List.setIfInBounds_toArray, List.set_cons_zero, List.set_cons_succ]
  refine wpAnyH_take (i := 35) (oi := { dst := some 40, op := Op.load 3 (Operand.tmp 39), type := 3, pos := "ref.go:358", after := #[{ on := 34, ground := Ground.data }, { on := 31, ground := Ground.guard }], guard := some (31, true) }) (v := undef) rfl (by kernel_rfl) (by kernel_rfl) (by kernel_rfl) (fun _ _ _ h => h) (Or.inr ⟨by kernel_rfl, rfl⟩) (by assumption) ?rn65k35
  try simp only [Act.put, List.setIfInBounds_toArray, List.set_cons_zero, List.set_cons_succ]
  refine wpAnyH_take (i := 36) (oi := { dst := some 41, op := Op.binOp BinOp.eql 3 (Operand.tmp 38) (Operand.tmp 40) 3, type := 4, pos := "ref.go:358", after := #[{ on := 33, ground := Ground.data }, { on := 35, ground := Ground.data }, { on := 31, ground := Ground.guard }], guard := some (31, true) }) (v := undef) rfl (by kernel_rfl) (by kernel_rfl) (by kernel_rfl) (fun _ _ _ h => h) (Or.inr ⟨by kernel_rfl, rfl⟩) (by assumption) ?rn66k36
  try simp only [Act.put, List.setIfInBounds_toArray, List.set_cons_zero, List.set_cons_succ]
  refine wpAnyH_take (i := 37) (oi := { dst := some 42, op := Op.pick (Operand.tmp 36) (Operand.tmp 41) (Operand.const (Value.bool false)), type := 4, pos := "ref.go:358", after := #[{ on := 31, ground := Ground.data }, { on := 36, ground := Ground.data }], guard := none }) (v := ?vn67k37) rfl (by kernel_rfl) (by kernel_rfl) (by kernel_rfl) (fun _ _ _ h => h) (Or.inl ⟨by kernel_rfl, ?yn67k37⟩) (by assumption) ?rn67k37
  case yn67k37 => intro w hSw; (try dsimp only at hSw); go_simp; try with_reducible rfl
  try simp only [Act.put, List.setIfInBounds_toArray, List.set_cons_zero, List.set_cons_succ]
  refine wpAnyH_take (i := 38) (oi := { dst := some 4, op := Op.assign (Operand.tmp 42), type := 4, pos := "ref.go:358", after := #[{ on := 37, ground := Ground.data }, { on := 31, ground := Ground.chain }, { on := 0, ground := Ground.phase }, { on := 1, ground := Ground.phase }, { on := 2, ground := Ground.phase }, { on := 3, ground := Ground.phase }, { on := 4, ground := Ground.phase }, { on := 5, ground := Ground.phase }, { on := 6, ground := Ground.phase }, { on := 7, ground := Ground.phase }, { on := 8, ground := Ground.phase }, { on := 9, ground := Ground.phase }, { on := 10, ground := Ground.phase }, { on := 11, ground := Ground.phase }, { on := 12, ground := Ground.phase }, { on := 13, ground := Ground.phase }, { on := 14, ground := Ground.phase }, { on := 15, ground := Ground.phase }, { on := 16, ground := Ground.phase }, { on := 17, ground := Ground.phase }, { on := 18, ground := Ground.phase }, { on := 19, ground := Ground.phase }, { on := 20, ground := Ground.phase }, { on := 21, ground := Ground.phase }, { on := 22, ground := Ground.phase }, { on := 23, ground := Ground.phase }, { on := 24, ground := Ground.phase }, { on := 25, ground := Ground.phase }, { on := 26, ground := Ground.phase }, { on := 27, ground := Ground.phase }, { on := 28, ground := Ground.phase }, { on := 29, ground := Ground.phase }, { on := 30, ground := Ground.phase }, { on := 31, ground := Ground.phase }, { on := 32, ground := Ground.phase }, { on := 33, ground := Ground.phase }, { on := 34, ground := Ground.phase }, { on := 35, ground := Ground.phase }, { on := 36, ground := Ground.phase }, { on := 37, ground := Ground.phase }], guard := none }) (v := ?vn68k38) rfl (by kernel_rfl) (by kernel_rfl) (by kernel_rfl) (fun _ _ _ h => h) (Or.inl ⟨by kernel_rfl, ?yn68k38⟩) (by assumption) ?rn68k38
  case yn68k38 => intro w hSw; (try dsimp only at hSw); go_simp; try with_reducible rfl
  try simp only [Act.put, List.setIfInBounds_toArray, List.set_cons_zero, List.set_cons_succ]
  refine wpAnyH_done (by kernel_rfl) ?_ _
  go_wp2_with fail
  go_ret
  exact ⟨rfl, BA.out⟩
set_option maxRecDepth 100000 in
set_option maxHeartbeats 8000000 in
theorem Same_c2 (lo hi lo' hi' : List Int) (mn mx mn' mx' : Int) (A B A' B' : Option Addr) (c1 c2 c1' c2' : Nat) (w : World) (ha : Ints w A lo) (hb : Ints w B hi) (ha' : Ints w A' lo') (hb' : Ints w B' hi') (hV : validFB lo hi mn mx = true) (hV' : validFB lo' hi' mn' mx' = true) (h1 : ((setN lo : Int) == (setN lo' : Int)) = true) (h2 : ((setN hi : Int) == (setN hi' : Int)) = true) (h3 : (mn == mn') = false) :
    Calls Tryz.prog 10 #[.agg #[.slice A lo.length c1, .slice B hi.length c2, .int .i64 mn, .int .i64 mx], .agg #[.slice A' lo'.length c1', .slice B' hi'.length c2', .int .i64 mn', .int .i64 mx']] w fun e w' => e = .returned (.bool false) ∧ Below w.heap.size w w' := by
  have VP := Lib.hid (fun w1 (h : Below w.heap.size w w1) => FValid_r_any lo hi mn mx A B c1 c2 w1 (ha.over h) (hb.over h))
  have VQ := Lib.hid (fun w1 (h : Below w.heap.size w w1) => FValid_r_any lo' hi' mn' mx' A' B' c1' c2' w1 (ha'.over h) (hb'.over h))
  rw [hV] at VP
  rw [hV'] at VQ
  obtain ⟨hr1, hr2⟩ : lo.all inR = true ∧ hi.all inR = true := by
    unfold validFB elemsB at hV
    simp only [Bool.and_eq_true] at hV
    exact ⟨hV.1.1.1.2, hV.1.1.2.2⟩
  obtain ⟨hr3, hr4⟩ : lo'.all inR = true ∧ hi'.all inR = true := by
    unfold validFB elemsB at hV'
    simp only [Bool.and_eq_true] at hV'
    exact ⟨hV'.1.1.1.2, hV'.1.1.2.2⟩
  have S1 := Lib.hid (fun w1 (h : Below w.heap.size w w1) => rof_any lo A c1 w1 (ha.over h) hr1)
  have S2 := Lib.hid (fun w1 (h : Below w.heap.size w w1) => rof_any hi B c2 w1 (hb.over h) hr2)
  have T1 := Lib.hid (fun w1 (h : Below w.heap.size w w1) => rof_any lo' A' c1' w1 (ha'.over h) hr3)
  have T2 := Lib.hid (fun w1 (h : Below w.heap.size w w1) => rof_any hi' B' c2' w1 (hb'.over h) hr4)
  have hl1 := ha.1
  have hl2 := hb.1
  have hl3 := ha'.1
  have hl4 := hb'.1
  clear ha hb ha' hb' hV hV' hr1 hr2 hr3 hr4
  generalize lo.length = n1 at *
  generalize hi.length = n2 at *
  generalize lo'.length = n1' at *
  generalize hi'.length = n2' at *
  generalize setN lo = L at *
  generalize setN hi = H at *
  generalize setN lo' = L' at *
  generalize setN hi' = H' at *
  have BA := Lib.hid (show Below w.heap.size w ((w.alloc (.cells #[.slice A n1 c1, .slice B n2 c2, .int .i64 mn, .int .i64 mx] 24)).alloc (.cells #[.slice A' n1' c1', .slice B' n2' c2', .int .i64 mn', .int .i64 mx'] 24)) from ((Below.refl _ w).alloc (Nat.le_refl _) _).alloc (by simp) _)
  have BX := Lib.hid (show ∀ wx : World, Below (w.heap.size + 2) ((w.alloc (.cells #[.slice A n1 c1, .slice B n2 c2, .int .i64 mn, .int .i64 mx] 24)).alloc (.cells #[.slice A' n1' c1', .slice B' n2' c2', .int .i64 mn', .int .i64 mx'] 24)) wx → wx.cell? ⟨w.heap.size, 0, none⟩ = some (.slice A n1 c1) ∧ wx.cell? ⟨w.heap.size, 1, none⟩ = some (.slice B n2 c2) ∧ wx.cell? ⟨w.heap.size, 2, none⟩ = some (.int .i64 mn) ∧ wx.cell? ⟨w.heap.size, 3, none⟩ = some (.int .i64 mx) ∧ wx.cell? ⟨w.heap.size + 1, 0, none⟩ = some (.slice A' n1' c1') ∧ wx.cell? ⟨w.heap.size + 1, 1, none⟩ = some (.slice B' n2' c2') ∧ wx.cell? ⟨w.heap.size + 1, 2, none⟩ = some (.int .i64 mn') ∧ wx.cell? ⟨w.heap.size + 1, 3, none⟩ = some (.int .i64 mx') from fun wx h => by
    have hh := (h.block w.heap.size (by omega)).trans (heap_alloc2_old w (.cells #[.slice A n1 c1, .slice B n2 c2, .int .i64 mn, .int .i64 mx] 24) _)
    have hk := (h.block (w.heap.size + 1) (by omega)).trans (heap_alloc2_new w _ (.cells #[.slice A' n1' c1', .slice B' n2' c2', .int .i64 mn', .int .i64 mx'] 24))
    refine ⟨?_, ?_, ?_, ?_, ?_, ?_, ?_, ?_⟩ <;> (simp only [World.cell?, hh, hk]; rfl))
  have hz : w.heap.size + 2 ≤ ((w.alloc (.cells #[.slice A n1 c1, .slice B n2 c2, .int .i64 mn, .int .i64 mx] 24)).alloc (.cells #[.slice A' n1' c1', .slice B' n2' c2', .int .i64 mn', .int .i64 mx'] 24)).heap.size := by simp
  go_enter Tryz.func10, Tryz.ntmps10
  go_wp2_with fail
  generalize ((w.alloc (.cells #[.slice A n1 c1, .slice B n2 c2, .int .i64 mn, .int .i64 mx] 24)).alloc (.cells #[.slice A' n1' c1', .slice B' n2' c2', .int .i64 mn', .int .i64 mx'] 24)) = W at *
  have S0 : (fun wx : World => wx.cell? ⟨w.heap.size, 0, none⟩ = some (.slice A n1 c1) ∧ wx.cell? ⟨w.heap.size, 1, none⟩ = some (.slice B n2 c2) ∧ wx.cell? ⟨w.heap.size, 2, none⟩ = some (.int .i64 mn) ∧ wx.cell? ⟨w.heap.size, 3, none⟩ = some (.int .i64 mx) ∧ wx.cell? ⟨w.heap.size + 1, 0, none⟩ = some (.slice A' n1' c1') ∧ wx.cell? ⟨w.heap.size + 1, 1, none⟩ = some (.slice B' n2' c2') ∧ wx.cell? ⟨w.heap.size + 1, 2, none⟩ = some (.int .i64 mn') ∧ wx.cell? ⟨w.heap.size + 1, 3, none⟩ = some (.int .i64 mx')) W.drew := BX.out _ (Below.refl _ W).drew
  have BV := Lib.hid (show Below (w.heap.size + 2) W W.drew from (Below.refl _ W).drew)
  replace BA := Lib.hid (show Below w.heap.size w W.drew from BA.out.drew)
  have hvs : w.heap.size + 2 ≤ W.drew.heap.size := hz
  refine wp_region_held_drew (S := fun (wx : World) => wx.cell? ⟨w.heap.size, 0, none⟩ = some (.slice A n1 c1) ∧ wx.cell? ⟨w.heap.size, 1, none⟩ = some (.slice B n2 c2) ∧ wx.cell? ⟨w.heap.size, 2, none⟩ = some (.int .i64 mn) ∧ wx.cell? ⟨w.heap.size, 3, none⟩ = some (.int .i64 mx) ∧ wx.cell? ⟨w.heap.size + 1, 0, none⟩ = some (.slice A' n1' c1') ∧ wx.cell? ⟨w.heap.size + 1, 1, none⟩ = some (.slice B' n2' c2') ∧ wx.cell? ⟨w.heap.size + 1, 2, none⟩ = some (.int .i64 mn') ∧ wx.cell? ⟨w.heap.size + 1, 3, none⟩ = some (.int .i64 mx')) (by kernel_rfl) S0 (fun hHeld => ?_)
  clear S0 hz
  generalize W.drew = V at *
  refine wpAnyH_take (i := 0) (oi := { dst := some 5, op := Op.load 24 (Operand.tmp 2), type := 24, pos := "ref.go:358", after := #[], guard := none }) (v := ?vn69k0) rfl (by kernel_rfl) (by kernel_rfl) (by kernel_rfl) (fun _ _ _ h => h) (Or.inl ⟨by kernel_rfl, ?yn69k0⟩) (by assumption) ?rn69k0
  case yn69k0 => intro w hSw; (try dsimp only at hSw); go_simp; try with_reducible rfl
  try simp only [Act.put, List.setIfInBounds_toArray, List.set_cons_zero, List.set_cons_succ]
  refine wpAnyH_ready (rs := [1]) (by kernel_rfl) (by simp) (AllReadyH.cons (o := { dst := some 6, op := Op.call { callee := Callee.value (Operand.func 23), args := #[Operand.tmp 5], argTypes := #[24] }, type := 4, pos := "ref.go:358", after := #[{ on := 0, ground := Ground.data }], guard := none }) rfl (fun K hK => ?_) AllReadyH.nil)
  go_simp
  refine (VP.out _ BA.out).mono ?_
  rintro e y0 ⟨rfl, hb⟩
  replace BV := Lib.hid (BV.out.trans (hb.mono hvs))
  replace BA := Lib.hid (BA.out.trans (hb.mono BA.out.size))
  replace hvs : w.heap.size + 2 ≤ y0.heap.size := Nat.le_trans hvs hb.size
  clear hb hHeld
  refine hK.out _ _ (BX.out _ BV.out) (fun hHeld => ?_)
  clear hK K
  try simp only [Act.put, List.setIfInBounds_toArray, List.set_cons_zero, List.set_cons_succ]
  refine wpAnyH_take (i := 2) (oi := { dst := some 7, op := Op.move (Operand.tmp 6), type := 4, pos := "ref.go:358", after := #[{ on := 1, ground := Ground.data }, { on := 1, ground := Ground.chain }], guard := none }) (v := ?vn70k2) rfl (by kernel_rfl) (by kernel_rfl) (by kernel_rfl) (fun _ _ _ h => h) (Or.inl ⟨by kernel_rfl, ?yn70k2⟩) (by assumption) ?rn70k2
  case yn70k2 => intro w hSw; (try dsimp only at hSw); go_simp; try with_reducible rfl
  try simp only [Act.put, List.setIfInBounds_toArray, List.set_cons_zero, List.set_cons_succ]
  refine wpAnyH_take (i := 3) (oi := { dst := some 8, op := Op.load 24 (Operand.tmp 3), type := 24, pos := "ref.go:358", after := #[{ on := 2, ground := Ground.guard }], guard := some (2, true) }) (v := ?vn71k3) rfl (by kernel_rfl) (by kernel_rfl) (by kernel_rfl) (fun _ _ _ h => h) (Or.inl ⟨by kernel_rfl, ?yn71k3⟩) (by assumption) ?rn71k3
  case yn71k3 => intro w hSw; (try dsimp only at hSw); go_simp; try with_reducible rfl
  try simp only [Act.put, List.setIfInBounds_toArray, List.set_cons_zero, List.set_cons_succ]
  refine wpAnyH_ready (rs := [4]) (by kernel_rfl) (by simp) (AllReadyH.cons (o := { dst := some 9, op := Op.call { callee := Callee.value (Operand.func 23), args := #[Operand.tmp 8], argTypes := #[24] }, type := 4, pos := "ref.go:358", after := #[{ on := 3, ground := Ground.data }, { on := 2, ground := Ground.chain }, { on := 2, ground := Ground.guard }], guard := some (2, true) }) rfl (fun K hK => ?_) AllReadyH.nil)
  go_simp
  refine (VQ.out _ BA.out).mono ?_
  rintro e y1 ⟨rfl, hb⟩
  replace BV := Lib.hid (BV.out.trans (hb.mono hvs))
  replace BA := Lib.hid (BA.out.trans (hb.mono BA.out.size))
  replace hvs : w.heap.size + 2 ≤ y1.heap.size := Nat.le_trans hvs hb.size
  clear hb hHeld
  refine hK.out _ _ (BX.out _ BV.out) (fun hHeld => ?_)
  clear hK K
  try simp only [Act.put, List.setIfInBounds_toArray, List.set_cons_zero, List.set_cons_succ]
  refine wpAnyH_take (i := 5) (oi := { dst := some 10, op := Op.pick (Operand.tmp 7) (Operand.tmp 9) (Operand.const (Value.bool false)), type := 4, pos := "ref.go:358", after := #[{ on := 2, ground := Ground.data }, { on := 4, ground := Ground.data }], guard := none }) (v := ?vn72k5) rfl (by kernel_rfl) (by kernel_rfl) (by kernel_rfl) (fun _ _ _ h => h) (Or.inl ⟨by kernel_rfl, ?yn72k5⟩) (by assumption) ?rn72k5
  case yn72k5 => intro w hSw; (try dsimp only at hSw); go_simp; try with_reducible rfl
  try simp only [Act.put, List.setIfInBounds_toArray, List.set_cons_zero, List.set_cons_succ]
  refine wpAnyH_take (i := 6) (oi := { dst := some 11, op := Op.move (Operand.tmp 10), type := 4, pos := "ref.go:358", after := #[{ on := 5, ground := Ground.data }, { on := 4, ground := Ground.chain }], guard := none }) (v := ?vn73k6) rfl (by kernel_rfl) (by kernel_rfl) (by kernel_rfl) (fun _ _ _ h => h) (Or.inl ⟨by kernel_rfl, ?yn73k6⟩) (by assumption) ?rn73k6
  case yn73k6 => intro w hSw; (try dsimp only at hSw); go_simp; try with_reducible rfl
  try simp only [Act.put, List.setIfInBounds_toArray, List.set_cons_zero, List.set_cons_succ]
  refine wpAnyH_take (i := 7) (oi := { dst := some 12, op := Op.fieldAddr 24 (Operand.tmp 2) 0, type := 0, pos := "ref.go:358", after := #[{ on := 6, ground := Ground.guard }], guard := some (6, true) }) (v := ?vn74k7) rfl (by kernel_rfl) (by kernel_rfl) (by kernel_rfl) (fun _ _ _ h => h) (Or.inl ⟨by kernel_rfl, ?yn74k7⟩) (by assumption) ?rn74k7
  case yn74k7 => intro w hSw; (try dsimp only at hSw); go_simp; try with_reducible rfl
  try simp only [Act.put, List.setIfInBounds_toArray, List.set_cons_zero, List.set_cons_succ]
  refine wpAnyH_take (i := 8) (oi := { dst := some 13, op := Op.load 22 (Operand.tmp 12), type := 22, pos := "ref.go:358", after := #[{ on := 7, ground := Ground.data }, { on := 6, ground := Ground.guard }], guard := some (6, true) }) (v := ?vn75k8) rfl (by kernel_rfl) (by kernel_rfl) (by kernel_rfl) (fun _ _ _ h => h) (Or.inl ⟨by kernel_rfl, ?yn75k8⟩) (by assumption) ?rn75k8
  case yn75k8 => intro w hSw; (try dsimp only at hSw); go_simp; try with_reducible rfl
  try simp only [Act.put, List.setIfInBounds_toArray, List.set_cons_zero, List.set_cons_succ]
  refine wpAnyH_take (i := 10) (oi := { dst := some 15, op := Op.fieldAddr 24 (Operand.tmp 3) 0, type := 0, pos := "ref.go:358", after := #[{ on := 6, ground := Ground.guard }], guard := some (6, true) }) (v := ?vn76k10) rfl (by kernel_rfl) (by kernel_rfl) (by kernel_rfl) (fun _ _ _ h => h) (Or.inl ⟨by kernel_rfl, ?yn76k10⟩) (by assumption) ?rn76k10
  case yn76k10 => intro w hSw; (try dsimp only at hSw); go_simp; try with_reducible rfl
  try simp only [Act.put, List.setIfInBounds_toArray, List.set_cons_zero, List.set_cons_succ]
  refine wpAnyH_take (i := 11) (oi := { dst := some 16, op := Op.load 22 (Operand.tmp 15), type := 22, pos := "ref.go:358", after := #[{ on := 10, ground := Ground.data }, { on := 6, ground := Ground.guard }], guard := some (6, true) }) (v := ?vn77k11) rfl (by kernel_rfl) (by kernel_rfl) (by kernel_rfl) (fun _ _ _ h => h) (Or.inl ⟨by kernel_rfl, ?yn77k11⟩) (by assumption) ?rn77k11
  case yn77k11 => intro w hSw; (try dsimp only at hSw); go_simp; try with_reducible rfl
  try simp only [Act.put, List.setIfInBounds_toArray, List.set_cons_zero, List.set_cons_succ]
  refine wpAnyH_ready (rs := [9]) (by kernel_rfl) (by simp) (AllReadyH.cons (o := { dst := some 14, op := Op.call { callee := Callee.value (Operand.func 24), args := #[Operand.tmp 13], argTypes := #[22] }, type := 52, pos := "ref.go:358", after := #[{ on := 8, ground := Ground.data }, { on := 6, ground := Ground.chain }, { on := 6, ground := Ground.guard }], guard := some (6, true) }) rfl (fun K hK => ?_) AllReadyH.nil)
  go_simp
  refine (S1.out _ BA.out).mono ?_
  rintro e y2 ⟨rfl, rfl⟩
  clear hHeld
  refine hK.out _ _ (BX.out _ BV.out) (fun hHeld => ?_)
  clear hK K
  try simp only [Act.put, List.setIfInBounds_toArray, List.set_cons_zero, List.set_cons_succ]
  refine wpAnyH_ready (rs := [12]) (by kernel_rfl) (by simp) (AllReadyH.cons (o := { dst := some 17, op := Op.call { callee := Callee.value (Operand.func 24), args := #[Operand.tmp 16], argTypes := #[22] }, type := 52, pos := "ref.go:358", after := #[{ on := 11, ground := Ground.data }, { on := 9, ground := Ground.chain }, { on := 6, ground := Ground.guard }], guard := some (6, true) }) rfl (fun K hK => ?_) AllReadyH.nil)
  go_simp
  refine (T1.out _ BA.out).mono ?_
  rintro e y3 ⟨rfl, rfl⟩
  clear hHeld
  refine hK.out _ _ (BX.out _ BV.out) (fun hHeld => ?_)
  clear hK K
  try simp only [Act.put, List.setIfInBounds_toArray, List.set_cons_zero, List.set_cons_succ]
  refine wpAnyH_take (i := 13) (oi := { dst := some 18, op := Op.binOp BinOp.eql 52 (Operand.tmp 14) (Operand.tmp 17) 52, type := 4, pos := "ref.go:358", after := #[{ on := 9, ground := Ground.data }, { on := 12, ground := Ground.data }, { on := 6, ground := Ground.guard }], guard := some (6, true) }) (v := ?vn78k13) rfl (by kernel_rfl) (by kernel_rfl) (by kernel_rfl) (fun _ _ _ h => h) (Or.inl ⟨by kernel_rfl, ?yn78k13⟩) (by assumption) ?rn78k13
  case yn78k13 => intro w hSw; (try dsimp only at hSw); go_simp; try with_reducible rfl
  try simp only [Act.put, List.setIfInBounds_toArray, List.set_cons_zero, List.set_cons_succ]
  refine wpAnyH_take (i := 14) (oi := { dst := some 19, op := Op.pick (Operand.tmp 11) (Operand.tmp 18) (Operand.const (Value.bool false)), type := 4, pos := "ref.go:358", after := #[{ on := 6, ground := Ground.data }, { on := 13, ground := Ground.data }], guard := none }) (v := ?vn79k14) rfl (by kernel_rfl) (by kernel_rfl) (by kernel_rfl) (fun _ _ _ h => h) (Or.inl ⟨by kernel_rfl, ?yn79k14⟩) (by assumption) ?rn79k14
  case yn79k14 => intro w hSw; (try dsimp only at hSw); go_simp; try with_reducible rfl
  try simp only [Act.put, List.setIfInBounds_toArray, List.set_cons_zero, List.set_cons_succ]
  refine wpAnyH_take (i := 15) (oi := { dst := some 20, op := Op.move (Operand.tmp 19), type := 4, pos := "ref.go:358", after := #[{ on := 14, ground := Ground.data }, { on := 12, ground := Ground.chain }], guard := none }) (v := ?vn80k15) rfl (by kernel_rfl) (by kernel_rfl) (by kernel_rfl) (fun _ _ _ h => h) (Or.inl ⟨by kernel_rfl, ?yn80k15⟩) (by assumption) ?rn80k15
  case yn80k15 => intro w hSw; (try dsimp only at hSw); go_simp; try with_reducible rfl
  try simp only [Act.put, List.setIfInBounds_toArray, List.set_cons_zero, List.set_cons_succ]
  refine wpAnyH_take (i := 16) (oi := { dst := some 21, op := Op.fieldAddr 24 (Operand.tmp 2) 1, type := 0, pos := "ref.go:358", after := #[{ on := 15, ground := Ground.guard }], guard := some (15, true) }) (v := ?vn81k16) rfl (by kernel_rfl) (by kernel_rfl) (by kernel_rfl) (fun _ _ _ h => h) (Or.inl ⟨by kernel_rfl, ?yn81k16⟩) (by assumption) ?rn81k16
  case yn81k16 => intro w hSw; (try dsimp only at hSw); go_simp; try with_reducible rfl
  try simp only [Act.put, List.setIfInBounds_toArray, List.set_cons_zero, List.set_cons_succ]
  refine wpAnyH_take (i := 17) (oi := { dst := some 22, op := Op.load 22 (Operand.tmp 21), type := 22, pos := "ref.go:358", after := #[{ on := 16, ground := Ground.data }, { on := 15, ground := Ground.guard }], guard := some (15, true) }) (v := ?vn82k17) rfl (by kernel_rfl) (by kernel_rfl) (by kernel_rfl) (fun _ _ _ h => h) (Or.inl ⟨by kernel_rfl, ?yn82k17⟩) (by assumption) ?rn82k17
  case yn82k17 => intro w hSw; (try dsimp only at hSw); go_simp; try with_reducible rfl
  try simp only [Act.put, List.setIfInBounds_toArray, List.set_cons_zero, List.set_cons_succ]
  refine wpAnyH_take (i := 19) (oi := { dst := some 24, op := Op.fieldAddr 24 (Operand.tmp 3) 1, type := 0, pos := "ref.go:358", after := #[{ on := 15, ground := Ground.guard }], guard := some (15, true) }) (v := ?vn83k19) rfl (by kernel_rfl) (by kernel_rfl) (by kernel_rfl) (fun _ _ _ h => h) (Or.inl ⟨by kernel_rfl, ?yn83k19⟩) (by assumption) ?rn83k19
  case yn83k19 => intro w hSw; (try dsimp only at hSw); go_simp; try with_reducible rfl
  try simp only [Act.put, List.setIfInBounds_toArray, List.set_cons_zero, List.set_cons_succ]
  refine wpAnyH_take (i := 20) (oi := { dst := some 25, op := Op.load 22 (Operand.tmp 24), type := 22, pos := "ref.go:358", after := #[{ on := 19, ground := Ground.data }, { on := 15, ground := Ground.guard }], guard := some (15, true) }) (v := ?vn84k20) rfl (by kernel_rfl) (by kernel_rfl) (by kernel_rfl) (fun _ _ _ h => h) (Or.inl ⟨by kernel_rfl, ?yn84k20⟩) (by assumption) ?rn84k20
  case yn84k20 => intro w hSw; (try dsimp only at hSw); go_simp; try with_reducible rfl
  try simp only [Act.put, List.setIfInBounds_toArray, List.set_cons_zero, List.set_cons_succ]
  refine wpAnyH_ready (rs := [18]) (by kernel_rfl) (by simp) (AllReadyH.cons (o := { dst := some 23, op := Op.call { callee := Callee.value (Operand.func 24), args := #[Operand.tmp 22], argTypes := #[22] }, type := 52, pos := "ref.go:358", after := #[{ on := 17, ground := Ground.data }, { on := 15, ground := Ground.chain }, { on := 15, ground := Ground.guard }], guard := some (15, true) }) rfl (fun K hK => ?_) AllReadyH.nil)
  go_simp
  refine (S2.out _ BA.out).mono ?_
  rintro e y4 ⟨rfl, rfl⟩
  clear hHeld
  refine hK.out _ _ (BX.out _ BV.out) (fun hHeld => ?_)
  clear hK K
  try simp only [Act.put, List.setIfInBounds_toArray, List.set_cons_zero, List.set_cons_succ]
  refine wpAnyH_ready (rs := [21]) (by kernel_rfl) (by simp) (AllReadyH.cons (o := { dst := some 26, op := Op.call { callee := Callee.value (Operand.func 24), args := #[Operand.tmp 25], argTypes := #[22] }, type := 52, pos := "ref.go:358", after := #[{ on := 20, ground := Ground.data }, { on := 18, ground := Ground.chain }, { on := 15, ground := Ground.guard }], guard := some (15, true) }) rfl (fun K hK => ?_) AllReadyH.nil)
  go_simp
  refine (T2.out _ BA.out).mono ?_
  rintro e y5 ⟨rfl, rfl⟩
  clear hHeld
  refine hK.out _ _ (BX.out _ BV.out) (fun hHeld => ?_)
  clear hK K
  try simp only [Act.put, List.setIfInBounds_toArray, List.set_cons_zero, List.set_cons_succ]
  refine wpAnyH_take (i := 22) (oi := { dst := some 27, op := Op.binOp BinOp.eql 52 (Operand.tmp 23) (Operand.tmp 26) 52, type := 4, pos := "ref.go:358", after := #[{ on := 18, ground := Ground.data }, { on := 21, ground := Ground.data }, { on := 15, ground := Ground.guard }], guard := some (15, true) }) (v := ?vn85k22) rfl (by kernel_rfl) (by kernel_rfl) (by kernel_rfl) (fun _ _ _ h => h) (Or.inl ⟨by kernel_rfl, ?yn85k22⟩) (by assumption) ?rn85k22
  case yn85k22 => intro w hSw; (try dsimp only at hSw); go_simp; try with_reducible rfl
  try simp only [Act.put, List.setIfInBounds_toArray, List.set_cons_zero, List.set_cons_succ]
  refine wpAnyH_take (i := 23) (oi := { dst := some 28, op := Op.pick (Operand.tmp 20) (Operand.tmp 27) (Operand.const (Value.bool false)), type := 4, pos := "ref.go:358", after := #[{ on := 15, ground := Ground.data }, { on := 22, ground := Ground.data }], guard := none }) (v := ?vn86k23) rfl (by kernel_rfl) (by kernel_rfl) (by kernel_rfl) (fun _ _ _ h => h) (Or.inl ⟨by kernel_rfl, ?yn86k23⟩) (by assumption) ?rn86k23
  case yn86k23 => intro w hSw; (try dsimp only at hSw); go_simp; try with_reducible rfl
  try simp only [Act.put, List.setIfInBounds_toArray, List.set_cons_zero, List.set_cons_succ]
  refine wpAnyH_take (i := 24) (oi := { dst := some 29, op := Op.move (Operand.tmp 28), type := 4, pos := "ref.go:358", after := #[{ on := 23, ground := Ground.data }, { on := 21, ground := Ground.chain }], guard := none }) (v := ?vn87k24) rfl (by kernel_rfl) (by kernel_rfl) (by kernel_rfl) (fun _ _ _ h => h) (Or.inl ⟨by kernel_rfl, ?yn87k24⟩) (by assumption) ?rn87k24
  case yn87k24 => intro w hSw; (try dsimp only at hSw); go_simp; try with_reducible rfl
  try simp only [Act.put, List.setIfInBounds_toArray, List.set_cons_zero, List.set_cons_succ]
  refine wpAnyH_take (i := 25) (oi := { dst := some 30, op := Op.fieldAddr 24 (Operand.tmp 2) 2, type := 0, pos := "ref.go:358", after := #[{ on := 24, ground := Ground.guard }], guard := some (24, true) }) (v := ?vn88k25) rfl (by kernel_rfl) (by kernel_rfl) (by kernel_rfl) (fun _ _ _ h => h) (Or.inl ⟨by kernel_rfl, ?yn88k25⟩) (by assumption) ?rn88k25
  case yn88k25 => intro w hSw; (try dsimp only at hSw); go_simp; try with_reducible rfl
  try simp only [Act.put, List.setIfInBounds_toArray, List.set_cons_zero, List.set_cons_succ]
  refine wpAnyH_take (i := 26) (oi := { dst := some 31, op := Op.load 3 (Operand.tmp 30), type := 3, pos := "ref.go:358", after := #[{ on := 25, ground := Ground.data }, { on := 24, ground := Ground.guard }], guard := some (24, true) }) (v := ?vn89k26) rfl (by kernel_rfl) (by kernel_rfl) (by kernel_rfl) (fun _ _ _ h => h) (Or.inl ⟨by kernel_rfl, ?yn89k26⟩) (by assumption) ?rn89k26
  case yn89k26 => intro w hSw; (try dsimp only at hSw); go_simp; try with_reducible rfl
  try simp only [Act.put, List.setIfInBounds_toArray, List.set_cons_zero, List.set_cons_succ]
  refine wpAnyH_take (i := 27) (oi := { dst := some 32, op := Op.fieldAddr 24 (Operand.tmp 3) 2, type := 0, pos := "ref.go:358", after := #[{ on := 24, ground := Ground.guard }], guard := some (24, true) }) (v := ?vn90k27) rfl (by kernel_rfl) (by kernel_rfl) (by kernel_rfl) (fun _ _ _ h => h) (Or.inl ⟨by kernel_rfl, ?yn90k27⟩) (by assumption) ?rn90k27
  case yn90k27 => intro w hSw; (try dsimp only at hSw); go_simp; try with_reducible rfl
  try simp only [Act.put, List.setIfInBounds_toArray, List.set_cons_zero, List.set_cons_succ]
  refine wpAnyH_take (i := 28) (oi := { dst := some 33, op := Op.load 3 (Operand.tmp 32), type := 3, pos := "ref.go:358", after := #[{ on := 27, ground := Ground.data }, { on := 24, ground := Ground.guard }], guard := some (24, true) }) (v := ?vn91k28) rfl (by kernel_rfl) (by kernel_rfl) (by kernel_rfl) (fun _ _ _ h => h) (Or.inl ⟨by kernel_rfl, ?yn91k28⟩) (by assumption) ?rn91k28
  case yn91k28 => intro w hSw; (try dsimp only at hSw); go_simp; try with_reducible rfl
  try simp only [Act.put, List.setIfInBounds_toArray, List.set_cons_zero, List.set_cons_succ]
  refine wpAnyH_take (i := 29) (oi := { dst := some 34, op := Op.binOp BinOp.eql 3 (Operand.tmp 31) (Operand.tmp 33) 3, type := 4, pos := "ref.go:358", after := #[{ on := 26, ground := Ground.data }, { on := 28, ground := Ground.data }, { on := 24, ground := Ground.guard }], guard := some (24, true) }) (v := ?vn92k29) rfl (by kernel_rfl) (by kernel_rfl) (by kernel_rfl) (fun _ _ _ h => h) (Or.inl ⟨by kernel_rfl, ?yn92k29⟩) (by assumption) ?rn92k29
  case yn92k29 => intro w hSw; (try dsimp only at hSw); go_simp; try with_reducible rfl
  try simp only [Act.put, List.setIfInBounds_toArray, List.set_cons_zero, List.set_cons_succ]
  refine wpAnyH_take (i := 30) (oi := { dst := some 35, op := Op.pick (Operand.tmp 29) (Operand.tmp 34) (Operand.const (Value.bool false)), type := 4, pos := "ref.go:358", after := #[{ on := 24, ground := Ground.data }, { on := 29, ground := Ground.data }], guard := none }) (v := ?vn93k30) rfl (by kernel_rfl) (by kernel_rfl) (by kernel_rfl) (fun _ _ _ h => h) (Or.inl ⟨by kernel_rfl, ?yn93k30⟩) (by assumption) ?rn93k30
  case yn93k30 => intro w hSw; (try dsimp only at hSw); go_simp; try with_reducible rfl
  try simp only [Act.put, List.setIfInBounds_toArray, List.set_cons_zero, List.set_cons_succ]
  refine wpAnyH_take (i := 31) (oi := { dst := some 36, op := Op.move (Operand.tmp 35), type := 4, pos := "ref.go:358", after := #[{ on := 30, ground := Ground.data }, { on := 24, ground := Ground.chain }], guard := none }) (v := ?vn94k31) rfl (by kernel_rfl) (by kernel_rfl) (by kernel_rfl) (fun _ _ _ h => h) (Or.inl ⟨by kernel_rfl, ?yn94k31⟩) (by assumption) ?rn94k31
  case yn94k31 => intro w hSw; (try dsimp only at hSw); go_simp; try with_reducible rfl
  try simp only [Act.put, List.setIfInBounds_toArray, List.set_cons_zero, List.set_cons_succ]
  refine wpAnyH_take (i := 32) (oi := { dst := some 37, op := Op.fieldAddr 24 (Operand.tmp 2) 3, type := 0, pos := "ref.go:358", after := #[{ on := 31, ground := Ground.guard }], guard := some (31, true) }) (v := undef) rfl (by kernel_rfl) (by kernel_rfl) (by kernel_rfl) (fun _ _ _ h => h) (Or.inr ⟨by kernel_rfl, rfl⟩) (by assumption) ?rn95k32
  try simp only [Act.put, List.setIfInBounds_toArray, List.set_cons_zero, List.set_cons_succ]
  refine wpAnyH_take (i := 33) (oi := { dst := some 38, op := Op.load 3 (Operand.tmp 37), type := 3, pos := "ref.go:358", after := #[{ on := 32, ground := Ground.data }, { on := 31, ground := Ground.guard }], guard := some (31, true) }) (v := undef) rfl (by kernel_rfl) (by kernel_rfl) (by kernel_rfl) (fun _ _ _ h => h) (Or.inr ⟨by kernel_rfl, rfl⟩) (by assumption) ?rn96k33
  try simp only [Act.put, List.setIfInBounds_toArray, List.set_cons_zero, List.set_cons_succ]
  refine wpAnyH_take (i := 34) (oi := { dst := some 39, op := Op.fieldAddr 24 (Operand.tmp 3) 3, type := 0, pos := "ref.go:358", after := #[{ on := 31, ground := Ground.guard }], guard := some (31, true) }) (v := undef) rfl (by kernel_rfl) (by kernel_rfl) (by kernel_rfl) (fun _ _ _ h => h) (Or.inr ⟨by kernel_rfl, rfl⟩) (by assumption) ?rn97k34
  try simp only [Act.put, List.setIfInBounds_toArray, List.set_cons_zero, List.set_cons_succ]
  refine wpAnyH_take (i := 35) (oi := { dst := some 40, op := Op.load 3 (Operand.tmp 39), type := 3, pos := "ref.go:358", after := #[{ on := 34, ground := Ground.data }, { on := 31, ground := Ground.guard }], guard := some (31, true) }) (v := undef) rfl (by kernel_rfl) (by kernel_rfl) (by kernel_rfl) (fun _ _ _ h => h) (Or.inr ⟨by kernel_rfl, rfl⟩) (by assumption) ?rn98k35
  try simp only [Act.put, List.setIfInBounds_toArray, List.set_cons_zero, List.set_cons_succ]
  refine wpAnyH_take (i := 36) (oi := { dst := some 41, op := Op.binOp BinOp.eql 3 (Operand.tmp 38) (Operand.tmp 40) 3, type := 4, pos := "ref.go:358", after := #[{ on := 33, ground := Ground.data }, { on := 35, ground := Ground.data }, { on := 31, ground := Ground.guard }], guard := some (31, true) }) (v := undef) rfl (by kernel_rfl) (by kernel_rfl) (by kernel_rfl) (fun _ _ _ h => h) (Or.inr ⟨by kernel_rfl, rfl⟩) (by assumption) ?rn99k36
  try simp only [Act.put, List.setIfInBounds_toArray, List.set_cons_zero, List.set_cons_succ]
  refine wpAnyH_take (i := 37) (oi := { dst := some 42, op := Op.pick (Operand.tmp 36) (Operand.tmp 41) (Operand.const (Value.bool false)), type := 4, pos := "ref.go:358", after := #[{ on := 31, ground := Ground.data }, { on := 36, ground := Ground.data }], guard := none }) (v := ?vn100k37) rfl (by kernel_rfl) (by kernel_rfl) (by kernel_rfl) (fun _ _ _ h => h) (Or.inl ⟨by kernel_rfl, ?yn100k37⟩) (by assumption) ?rn100k37
  case yn100k37 => intro w hSw; (try dsimp only at hSw); go_simp; try with_reducible rfl
  try simp only [Act.put, List.setIfInBounds_toArray, List.set_cons_zero, List.set_cons_succ]
  refine wpAnyH_take (i := 38) (oi := { dst := some 4, op := Op.assign (Operand.tmp 42), type := 4, pos := "ref.go:358", after := #[{ on := 37, ground := Ground.data }, { on := 31, ground := Ground.chain }, { on := 0, ground := Ground.phase }, { on := 1, ground := Ground.phase }, { on := 2, ground := Ground.phase }, { on := 3, ground := Ground.phase }, { on := 4, ground := Ground.phase }, { on := 5, ground := Ground.phase }, { on := 6, ground := Ground.phase }, { on := 7, ground := Ground.phase }, { on := 8, ground := Ground.phase }, { on := 9, ground := Ground.phase }, { on := 10, ground := Ground.phase }, { on := 11, ground := Ground.phase }, { on := 12, ground := Ground.phase }, { on := 13, ground := Ground.phase }, { on := 14, ground := Ground.phase }, { on := 15, ground := Ground.phase }, { on := 16, ground := Ground.phase }, { on := 17, ground := Ground.phase }, { on := 18, ground := Ground.phase }, { on := 19, ground := Ground.phase }, { on := 20, ground := Ground.phase }, { on := 21, ground := Ground.phase }, { on := 22, ground := Ground.phase }, { on := 23, ground := Ground.phase }, { on := 24, ground := Ground.phase }, { on := 25, ground := Ground.phase }, { on := 26, ground := Ground.phase }, { on := 27, ground := Ground.phase }, { on := 28, ground := Ground.phase }, { on := 29, ground := Ground.phase }, { on := 30, ground := Ground.phase }, { on := 31, ground := Ground.phase }, { on := 32, ground := Ground.phase }, { on := 33, ground := Ground.phase }, { on := 34, ground := Ground.phase }, { on := 35, ground := Ground.phase }, { on := 36, ground := Ground.phase }, { on := 37, ground := Ground.phase }], guard := none }) (v := ?vn101k38) rfl (by kernel_rfl) (by kernel_rfl) (by kernel_rfl) (fun _ _ _ h => h) (Or.inl ⟨by kernel_rfl, ?yn101k38⟩) (by assumption) ?rn101k38
  case yn101k38 => intro w hSw; (try dsimp only at hSw); go_simp; try with_reducible rfl
  try simp only [Act.put, List.setIfInBounds_toArray, List.set_cons_zero, List.set_cons_succ]
  refine wpAnyH_done (by kernel_rfl) ?_ _
  go_wp2_with fail
  go_ret
  exact ⟨rfl, BA.out⟩
set_option maxRecDepth 100000 in
set_option maxHeartbeats 8000000 in
theorem Same_c3 (lo hi lo' hi' : List Int) (mn mx mn' mx' : Int) (A B A' B' : Option Addr) (c1 c2 c1' c2' : Nat) (w : World) (ha : Ints w A lo) (hb : Ints w B hi) (ha' : Ints w A' lo') (hb' : Ints w B' hi') (hV : validFB lo hi mn mx = true) (hV' : validFB lo' hi' mn' mx' = true) (h1 : ((setN lo : Int) == (setN lo' : Int)) = true) (h2 : ((setN hi : Int) == (setN hi' : Int)) = true) (h3 : (mn == mn') = true) (h4 : (mx == mx') = false) :
    Calls Tryz.prog 10 #[.agg #[.slice A lo.length c1, .slice B hi.length c2, .int .i64 mn, .int .i64 mx], .agg #[.slice A' lo'.length c1', .slice B' hi'.length c2', .int .i64 mn', .int .i64 mx']] w fun e w' => e = .returned (.bool false) ∧ Below w.heap.size w w' := by
  have VP := Lib.hid (fun w1 (h : Below w.heap.size w w1) => FValid_r_any lo hi mn mx A B c1 c2 w1 (ha.over h) (hb.over h))
  have VQ := Lib.hid (fun w1 (h : Below w.heap.size w w1) => FValid_r_any lo' hi' mn' mx' A' B' c1' c2' w1 (ha'.over h) (hb'.over h))
  rw [hV] at VP
  rw [hV'] at VQ
  obtain ⟨hr1, hr2⟩ : lo.all inR = true ∧ hi.all inR = true := by
    unfold validFB elemsB at hV
    simp only [Bool.and_eq_true] at hV
    exact ⟨hV.1.1.1.2, hV.1.1.2.2⟩
  obtain ⟨hr3, hr4⟩ : lo'.all inR = true ∧ hi'.all inR = true := by
    unfold validFB elemsB at hV'
    simp only [Bool.and_eq_true] at hV'
    exact ⟨hV'.1.1.1.2, hV'.1.1.2.2⟩
  have S1 := Lib.hid (fun w1 (h : Below w.heap.size w w1) => rof_any lo A c1 w1 (ha.over h) hr1)
  have S2 := Lib.hid (fun w1 (h : Below w.heap.size w w1) => rof_any hi B c2 w1 (hb.over h) hr2)
  have T1 := Lib.hid (fun w1 (h : Below w.heap.size w w1) => rof_any lo' A' c1' w1 (ha'.over h) hr3)
  have T2 := Lib.hid (fun w1 (h : Below w.heap.size w w1) => rof_any hi' B' c2' w1 (hb'.over h) hr4)
  have hl1 := ha.1
  have hl2 := hb.1
  have hl3 := ha'.1
  have hl4 := hb'.1
  clear ha hb ha' hb' hV hV' hr1 hr2 hr3 hr4
  generalize lo.length = n1 at *
  generalize hi.length = n2 at *
  generalize lo'.length = n1' at *
  generalize hi'.length = n2' at *
  generalize setN lo = L at *
  generalize setN hi = H at *
  generalize setN lo' = L' at *
  generalize setN hi' = H' at *
  have BA := Lib.hid (show Below w.heap.size w ((w.alloc (.cells #[.slice A n1 c1, .slice B n2 c2, .int .i64 mn, .int .i64 mx] 24)).alloc (.cells #[.slice A' n1' c1', .slice B' n2' c2', .int .i64 mn', .int .i64 mx'] 24)) from ((Below.refl _ w).alloc (Nat.le_refl _) _).alloc (by simp) _)
  have BX := Lib.hid (show ∀ wx : World, Below (w.heap.size + 2) ((w.alloc (.cells #[.slice A n1 c1, .slice B n2 c2, .int .i64 mn, .int .i64 mx] 24)).alloc (.cells #[.slice A' n1' c1', .slice B' n2' c2', .int .i64 mn', .int .i64 mx'] 24)) wx → wx.cell? ⟨w.heap.size, 0, none⟩ = some (.slice A n1 c1) ∧ wx.cell? ⟨w.heap.size, 1, none⟩ = some (.slice B n2 c2) ∧ wx.cell? ⟨w.heap.size, 2, none⟩ = some (.int .i64 mn) ∧ wx.cell? ⟨w.heap.size, 3, none⟩ = some (.int .i64 mx) ∧ wx.cell? ⟨w.heap.size + 1, 0, none⟩ = some (.slice A' n1' c1') ∧ wx.cell? ⟨w.heap.size + 1, 1, none⟩ = some (.slice B' n2' c2') ∧ wx.cell? ⟨w.heap.size + 1, 2, none⟩ = some (.int .i64 mn') ∧ wx.cell? ⟨w.heap.size + 1, 3, none⟩ = some (.int .i64 mx') from fun wx h => by
    have hh := (h.block w.heap.size (by omega)).trans (heap_alloc2_old w (.cells #[.slice A n1 c1, .slice B n2 c2, .int .i64 mn, .int .i64 mx] 24) _)
    have hk := (h.block (w.heap.size + 1) (by omega)).trans (heap_alloc2_new w _ (.cells #[.slice A' n1' c1', .slice B' n2' c2', .int .i64 mn', .int .i64 mx'] 24))
    refine ⟨?_, ?_, ?_, ?_, ?_, ?_, ?_, ?_⟩ <;> (simp only [World.cell?, hh, hk]; rfl))
  have hz : w.heap.size + 2 ≤ ((w.alloc (.cells #[.slice A n1 c1, .slice B n2 c2, .int .i64 mn, .int .i64 mx] 24)).alloc (.cells #[.slice A' n1' c1', .slice B' n2' c2', .int .i64 mn', .int .i64 mx'] 24)).heap.size := by simp
  go_enter Tryz.func10, Tryz.ntmps10
  go_wp2_with fail
  generalize ((w.alloc (.cells #[.slice A n1 c1, .slice B n2 c2, .int .i64 mn, .int .i64 mx] 24)).alloc (.cells #[.slice A' n1' c1', .slice B' n2' c2', .int .i64 mn', .int .i64 mx'] 24)) = W at *
  have S0 : (fun wx : World => wx.cell? ⟨w.heap.size, 0, none⟩ = some (.slice A n1 c1) ∧ wx.cell? ⟨w.heap.size, 1, none⟩ = some (.slice B n2 c2) ∧ wx.cell? ⟨w.heap.size, 2, none⟩ = some (.int .i64 mn) ∧ wx.cell? ⟨w.heap.size, 3, none⟩ = some (.int .i64 mx) ∧ wx.cell? ⟨w.heap.size + 1, 0, none⟩ = some (.slice A' n1' c1') ∧ wx.cell? ⟨w.heap.size + 1, 1, none⟩ = some (.slice B' n2' c2') ∧ wx.cell? ⟨w.heap.size + 1, 2, none⟩ = some (.int .i64 mn') ∧ wx.cell? ⟨w.heap.size + 1, 3, none⟩ = some (.int .i64 mx')) W.drew := BX.out _ (Below.refl _ W).drew
  have BV := Lib.hid (show Below (w.heap.size + 2) W W.drew from (Below.refl _ W).drew)
  replace BA := Lib.hid (show Below w.heap.size w W.drew from BA.out.drew)
  have hvs : w.heap.size + 2 ≤ W.drew.heap.size := hz
  refine wp_region_held_drew (S := fun (wx : World) => wx.cell? ⟨w.heap.size, 0, none⟩ = some (.slice A n1 c1) ∧ wx.cell? ⟨w.heap.size, 1, none⟩ = some (.slice B n2 c2) ∧ wx.cell? ⟨w.heap.size, 2, none⟩ = some (.int .i64 mn) ∧ wx.cell? ⟨w.heap.size, 3, none⟩ = some (.int .i64 mx) ∧ wx.cell? ⟨w.heap.size + 1, 0, none⟩ = some (.slice A' n1' c1') ∧ wx.cell? ⟨w.heap.size + 1, 1, none⟩ = some (.slice B' n2' c2') ∧ wx.cell? ⟨w.heap.size + 1, 2, none⟩ = some (.int .i64 mn') ∧ wx.cell? ⟨w.heap.size + 1, 3, none⟩ = some (.int .i64 mx')) (by kernel_rfl) S0 (fun hHeld => ?_)
  clear S0 hz
  generalize W.drew = V at *
  refine wpAnyH_take (i := 0) (oi := { dst := some 5, op := Op.load 24 (Operand.tmp 2), type := 24, pos := "ref.go:358", after := #[], guard := none }) (v := ?vn102k0) rfl (by kernel_rfl) (by kernel_rfl) (by kernel_rfl) (fun _ _ _ h => h) (Or.inl ⟨by kernel_rfl, ?yn102k0⟩) (by assumption) ?rn102k0
  case yn102k0 => intro w hSw; (try dsimp only at hSw); go_simp; try with_reducible rfl
  try simp only [Act.put, List.setIfInBounds_toArray, List.set_cons_zero, List.set_cons_succ]
  refine wpAnyH_ready (rs := [1]) (by kernel_rfl) (by simp) (AllReadyH.cons (o := { dst := some 6, op := Op.call { callee := Callee.value (Operand.func 23), args := #[Operand.tmp 5], argTypes := #[24] }, type := 4, pos := "ref.go:358", after := #[{ on := 0, ground := Ground.data }], guard := none }) rfl (fun K hK => ?_) AllReadyH.nil)
  go_simp
  refine (VP.out _ BA.out).mono ?_
  rintro e y0 ⟨rfl, hb⟩
  replace BV := Lib.hid (BV.out.trans (hb.mono hvs))
  replace BA := Lib.hid (BA.out.trans (hb.mono BA.out.size))
  replace hvs : w.heap.size + 2 ≤ y0.heap.size := Nat.le_trans hvs hb.size
  clear hb hHeld
  refine hK.out _ _ (BX.out _ BV.out) (fun hHeld => ?_)
  clear hK K
  try simp only [Act.put, List.setIfInBounds_toArray, List.set_cons_zero, List.set_cons_succ]
  refine wpAnyH_take (i := 2) (oi := { dst := some 7, op := Op.move (Operand.tmp 6), type := 4, pos := "ref.go:358", after := #[{ on := 1, ground := Ground.data }, { on := 1, ground := Ground.chain }], guard := none }) (v := ?vn103k2) rfl (by kernel_rfl) (by kernel_rfl) (by kernel_rfl) (fun _ _ _ h => h) (Or.inl ⟨by kernel_rfl, ?yn103k2⟩) (by assumption) ?rn103k2
  case yn103k2 => intro w hSw; (try dsimp only at hSw); go_simp; try with_reducible rfl
  try simp only [Act.put, List.setIfInBounds_toArray, List.set_cons_zero, List.set_cons_succ]
  refine wpAnyH_take (i := 3) (oi := { dst := some 8, op := Op.load 24 (Operand.tmp 3), type := 24, pos := "ref.go:358", after := #[{ on := 2, ground := Ground.guard }], guard := some (2, true) }) (v := ?vn104k3) rfl (by kernel_rfl) (by kernel_rfl) (by kernel_rfl) (fun _ _ _ h => h) (Or.inl ⟨by kernel_rfl, ?yn104k3⟩) (by assumption) ?rn104k3
  case yn104k3 => intro w hSw; (try dsimp only at hSw); go_simp; try with_reducible rfl
  try simp only [Act.put, List.setIfInBounds_toArray, List.set_cons_zero, List.set_cons_succ]
  refine wpAnyH_ready (rs := [4]) (by kernel_rfl) (by simp) (AllReadyH.cons (o := { dst := some 9, op := Op.call { callee := Callee.value (Operand.func 23), args := #[Operand.tmp 8], argTypes := #[24] }, type := 4, pos := "ref.go:358", after := #[{ on := 3, ground := Ground.data }, { on := 2, ground := Ground.chain }, { on := 2, ground := Ground.guard }], guard := some (2, true) }) rfl (fun K hK => ?_) AllReadyH.nil)
  go_simp
  refine (VQ.out _ BA.out).mono ?_
  rintro e y1 ⟨rfl, hb⟩
  replace BV := Lib.hid (BV.out.trans (hb.mono hvs))
  replace BA := Lib.hid (BA.out.trans (hb.mono BA.out.size))
  replace hvs : w.heap.size + 2 ≤ y1.heap.size := Nat.le_trans hvs hb.size
  clear hb hHeld
  refine hK.out _ _ (BX.out _ BV.out) (fun hHeld => ?_)
  clear hK K
  try simp only [Act.put, List.setIfInBounds_toArray, List.set_cons_zero, List.set_cons_succ]
  refine wpAnyH_take (i := 5) (oi := { dst := some 10, op := Op.pick (Operand.tmp 7) (Operand.tmp 9) (Operand.const (Value.bool false)), type := 4, pos := "ref.go:358", after := #[{ on := 2, ground := Ground.data }, { on := 4, ground := Ground.data }], guard := none }) (v := ?vn105k5) rfl (by kernel_rfl) (by kernel_rfl) (by kernel_rfl) (fun _ _ _ h => h) (Or.inl ⟨by kernel_rfl, ?yn105k5⟩) (by assumption) ?rn105k5
  case yn105k5 => intro w hSw; (try dsimp only at hSw); go_simp; try with_reducible rfl
  try simp only [Act.put, List.setIfInBounds_toArray, List.set_cons_zero, List.set_cons_succ]
  refine wpAnyH_take (i := 6) (oi := { dst := some 11, op := Op.move (Operand.tmp 10), type := 4, pos := "ref.go:358", after := #[{ on := 5, ground := Ground.data }, { on := 4, ground := Ground.chain }], guard := none }) (v := ?vn106k6) rfl (by kernel_rfl) (by kernel_rfl) (by kernel_rfl) (fun _ _ _ h => h) (Or.inl ⟨by kernel_rfl, ?yn106k6⟩) (by assumption) ?rn106k6
  case yn106k6 => intro w hSw; (try dsimp only at hSw); go_simp; try with_reducible rfl
  try simp only [Act.put, List.setIfInBounds_toArray, List.set_cons_zero, List.set_cons_succ]
  refine wpAnyH_take (i := 7) (oi := { dst := some 12, op := Op.fieldAddr 24 (Operand.tmp 2) 0, type := 0, pos := "ref.go:358", after := #[{ on := 6, ground := Ground.guard }], guard := some (6, true) }) (v := ?vn107k7) rfl (by kernel_rfl) (by kernel_rfl) (by kernel_rfl) (fun _ _ _ h => h) (Or.inl ⟨by kernel_rfl, ?yn107k7⟩) (by assumption) ?rn107k7
  case yn107k7 => intro w hSw; (try dsimp only at hSw); go_simp; try with_reducible rfl
  try simp only [Act.put, List.setIfInBounds_toArray, List.set_cons_zero, List.set_cons_succ]
  refine wpAnyH_take (i := 8) (oi := { dst := some 13, op := Op.load 22 (Operand.tmp 12), type := 22, pos := "ref.go:358", after := #[{ on := 7, ground := Ground.data }, { on := 6, ground := Ground.guard }], guard := some (6, true) }) (v := ?vn108k8) rfl (by kernel_rfl) (by kernel_rfl) (by kernel_rfl) (fun _ _ _ h => h) (Or.inl ⟨by kernel_rfl, ?yn108k8⟩) (by assumption) ?rn108k8
  case yn108k8 => intro w hSw; (try dsimp only at hSw); go_simp; try with_reducible rfl
  try simp only [Act.put, List.setIfInBounds_toArray, List.set_cons_zero, List.set_cons_succ]
  refine wpAnyH_take (i := 10) (oi := { dst := some 15, op := Op.fieldAddr 24 (Operand.tmp 3) 0, type := 0, pos := "ref.go:358", after := #[{ on := 6, ground := Ground.guard }], guard := some (6, true) }) (v := ?vn109k10) rfl (by kernel_rfl) (by kernel_rfl) (by kernel_rfl) (fun _ _ _ h => h) (Or.inl ⟨by kernel_rfl, ?yn109k10⟩) (by assumption) ?rn109k10
  case yn109k10 => intro w hSw; (try dsimp only at hSw); go_simp; try with_reducible rfl
  try simp only [Act.put, List.setIfInBounds_toArray, List.set_cons_zero, List.set_cons_succ]
  refine wpAnyH_take (i := 11) (oi := { dst := some 16, op := Op.load 22 (Operand.tmp 15), type := 22, pos := "ref.go:358", after := #[{ on := 10, ground := Ground.data }, { on := 6, ground := Ground.guard }], guard := some (6, true) }) (v := ?vn110k11) rfl (by kernel_rfl) (by kernel_rfl) (by kernel_rfl) (fun _ _ _ h => h) (Or.inl ⟨by kernel_rfl, ?yn110k11⟩) (by assumption) ?rn110k11
  case yn110k11 => intro w hSw; (try dsimp only at hSw); go_simp; try with_reducible rfl
  try simp only [Act.put, List.setIfInBounds_toArray, List.set_cons_zero, List.set_cons_succ]
  refine wpAnyH_ready (rs := [9]) (by kernel_rfl) (by simp) (AllReadyH.cons (o := { dst := some 14, op := Op.call { callee := Callee.value (Operand.func 24), args := #[Operand.tmp 13], argTypes := #[22] }, type := 52, pos := "ref.go:358", after := #[{ on := 8, ground := Ground.data }, { on := 6, ground := Ground.chain }, { on := 6, ground := Ground.guard }], guard := some (6, true) }) rfl (fun K hK => ?_) AllReadyH.nil)
  go_simp
  refine (S1.out _ BA.out).mono ?_
  rintro e y2 ⟨rfl, rfl⟩
  clear hHeld
  refine hK.out _ _ (BX.out _ BV.out) (fun hHeld => ?_)
  clear hK K
  try simp only [Act.put, List.setIfInBounds_toArray, List.set_cons_zero, List.set_cons_succ]
  refine wpAnyH_ready (rs := [12]) (by kernel_rfl) (by simp) (AllReadyH.cons (o := { dst := some 17, op := Op.call { callee := Callee.value (Operand.func 24), args := #[Operand.tmp 16], argTypes := #[22] }, type := 52, pos := "ref.go:358", after := #[{ on := 11, ground := Ground.data }, { on := 9, ground := Ground.chain }, { on := 6, ground := Ground.guard }], guard := some (6, true) }) rfl (fun K hK => ?_) AllReadyH.nil)
  go_simp
  refine (T1.out _ BA.out).mono ?_
  rintro e y3 ⟨rfl, rfl⟩
  clear hHeld
  refine hK.out _ _ (BX.out _ BV.out) (fun hHeld => ?_)
  clear hK K
  try simp only [Act.put, List.setIfInBounds_toArray, List.set_cons_zero, List.set_cons_succ]
  refine wpAnyH_take (i := 13) (oi := { dst := some 18, op := Op.binOp BinOp.eql 52 (Operand.tmp 14) (Operand.tmp 17) 52, type := 4, pos := "ref.go:358", after := #[{ on := 9, ground := Ground.data }, { on := 12, ground := Ground.data }, { on := 6, ground := Ground.guard }], guard := some (6, true) }) (v := ?vn111k13) rfl (by kernel_rfl) (by kernel_rfl) (by kernel_rfl) (fun _ _ _ h => h) (Or.inl ⟨by kernel_rfl, ?yn111k13⟩) (by assumption) ?rn111k13
  case yn111k13 => intro w hSw; (try dsimp only at hSw); go_simp; try with_reducible rfl
  try simp only [Act.put, List.setIfInBounds_toArray, List.set_cons_zero, List.set_cons_succ]
  refine wpAnyH_take (i := 14) (oi := { dst := some 19, op := Op.pick (Operand.tmp 11) (Operand.tmp 18) (Operand.const (Value.bool false)), type := 4, pos := "ref.go:358", after := #[{ on := 6, ground := Ground.data }, { on := 13, ground := Ground.data }], guard := none }) (v := ?vn112k14) rfl (by kernel_rfl) (by kernel_rfl) (by kernel_rfl) (fun _ _ _ h => h) (Or.inl ⟨by kernel_rfl, ?yn112k14⟩) (by assumption) ?rn112k14
  case yn112k14 => intro w hSw; (try dsimp only at hSw); go_simp; try with_reducible rfl
  try simp only [Act.put, List.setIfInBounds_toArray, List.set_cons_zero, List.set_cons_succ]
  refine wpAnyH_take (i := 15) (oi := { dst := some 20, op := Op.move (Operand.tmp 19), type := 4, pos := "ref.go:358", after := #[{ on := 14, ground := Ground.data }, { on := 12, ground := Ground.chain }], guard := none }) (v := ?vn113k15) rfl (by kernel_rfl) (by kernel_rfl) (by kernel_rfl) (fun _ _ _ h => h) (Or.inl ⟨by kernel_rfl, ?yn113k15⟩) (by assumption) ?rn113k15
  case yn113k15 => intro w hSw; (try dsimp only at hSw); go_simp; try with_reducible rfl
  try simp only [Act.put, List.setIfInBounds_toArray, List.set_cons_zero, List.set_cons_succ]
  refine wpAnyH_take (i := 16) (oi := { dst := some 21, op := Op.fieldAddr 24 (Operand.tmp 2) 1, type := 0, pos := "ref.go:358", after := #[{ on := 15, ground := Ground.guard }], guard := some (15, true) }) (v := ?vn114k16) rfl (by kernel_rfl) (by kernel_rfl) (by kernel_rfl) (fun _ _ _ h => h) (Or.inl ⟨by kernel_rfl, ?yn114k16⟩) (by assumption) ?rn114k16
  case yn114k16 => intro w hSw; (try dsimp only at hSw); go_simp; try with_reducible rfl
  try simp only [Act.put, List.setIfInBounds_toArray, List.set_cons_zero, List.set_cons_succ]
  refine wpAnyH_take (i := 17) (oi := { dst := some 22, op := Op.load 22 (Operand.tmp 21), type := 22, pos := "ref.go:358", after := #[{ on := 16, ground := Ground.data }, { on := 15, ground := Ground.guard }], guard := some (15, true) }) (v := ?vn115k17) rfl (by kernel_rfl) (by kernel_rfl) (by kernel_rfl) (fun _ _ _ h => h) (Or.inl ⟨by kernel_rfl, ?yn115k17⟩) (by assumption) ?rn115k17
  case yn115k17 => intro w hSw; (try dsimp only at hSw); go_simp; try with_reducible rfl
  try simp only [Act.put, List.setIfInBounds_toArray, List.set_cons_zero, List.set_cons_succ]
  refine wpAnyH_take (i := 19) (oi := { dst := some 24, op := Op.fieldAddr 24 (Operand.tmp 3) 1, type := 0, pos := "ref.go:358", after := #[{ on := 15, ground := Ground.guard }], guard := some (15, true) }) (v := ?vn116k19) rfl (by kernel_rfl) (by kernel_rfl) (by kernel_rfl) (fun _ _ _ h => h) (Or.inl ⟨by kernel_rfl, ?yn116k19⟩) (by assumption) ?rn116k19
  case yn116k19 => intro w hSw; (try dsimp only at hSw); go_simp; try with_reducible rfl
  try simp only [Act.put, List.setIfInBounds_toArray, List.set_cons_zero, List.set_cons_succ]
  refine wpAnyH_take (i := 20) (oi := { dst := some 25, op := Op.load 22 (Operand.tmp 24), type := 22, pos := "ref.go:358", after := #[{ on := 19, ground := Ground.data }, { on := 15, ground := Ground.guard }], guard := some (15, true) }) (v := ?vn117k20) rfl (by kernel_rfl) (by kernel_rfl) (by kernel_rfl) (fun _ _ _ h => h) (Or.inl ⟨by kernel_rfl, ?yn117k20⟩) (by assumption) ?rn117k20
  case yn117k20 => intro w hSw; (try dsimp only at hSw); go_simp; try with_reducible rfl
  try simp only [Act.put, List.setIfInBounds_toArray, List.set_cons_zero, List.set_cons_succ]
  refine wpAnyH_ready (rs := [18]) (by kernel_rfl) (by simp) (AllReadyH.cons (o := { dst := some 23, op := Op.call { callee := Callee.value (Operand.func 24), args := #[Operand.tmp 22], argTypes := #[22] }, type := 52, pos := "ref.go:358", after := #[{ on := 17, ground := Ground.data }, { on := 15, ground := Ground.chain }, { on := 15, ground := Ground.guard }], guard := some (15, true) }) rfl (fun K hK => ?_) AllReadyH.nil)
  go_simp
  refine (S2.out _ BA.out).mono ?_
  rintro e y4 ⟨rfl, rfl⟩
  clear hHeld
  refine hK.out _ _ (BX.out _ BV.out) (fun hHeld => ?_)
  clear hK K
  try simp only [Act.put, List.setIfInBounds_toArray, List.set_cons_zero, List.set_cons_succ]
  refine wpAnyH_ready (rs := [21]) (by kernel_rfl) (by simp) (AllReadyH.cons (o := { dst := some 26, op := Op.call { callee := Callee.value (Operand.func 24), args := #[Operand.tmp 25], argTypes := #[22] }, type := 52, pos := "ref.go:358", after := #[{ on := 20, ground := Ground.data }, { on := 18, ground := Ground.chain }, { on := 15, ground := Ground.guard }], guard := some (15, true) }) rfl (fun K hK => ?_) AllReadyH.nil)
  go_simp
  refine (T2.out _ BA.out).mono ?_
  rintro e y5 ⟨rfl, rfl⟩
  clear hHeld
  refine hK.out _ _ (BX.out _ BV.out) (fun hHeld => ?_)
  clear hK K
  try simp only [Act.put, List.setIfInBounds_toArray, List.set_cons_zero, List.set_cons_succ]
  refine wpAnyH_take (i := 22) (oi := { dst := some 27, op := Op.binOp BinOp.eql 52 (Operand.tmp 23) (Operand.tmp 26) 52, type := 4, pos := "ref.go:358", after := #[{ on := 18, ground := Ground.data }, { on := 21, ground := Ground.data }, { on := 15, ground := Ground.guard }], guard := some (15, true) }) (v := ?vn118k22) rfl (by kernel_rfl) (by kernel_rfl) (by kernel_rfl) (fun _ _ _ h => h) (Or.inl ⟨by kernel_rfl, ?yn118k22⟩) (by assumption) ?rn118k22
  case yn118k22 => intro w hSw; (try dsimp only at hSw); go_simp; try with_reducible rfl
  try simp only [Act.put, List.setIfInBounds_toArray, List.set_cons_zero, List.set_cons_succ]
  refine wpAnyH_take (i := 23) (oi := { dst := some 28, op := Op.pick (Operand.tmp 20) (Operand.tmp 27) (Operand.const (Value.bool false)), type := 4, pos := "ref.go:358", after := #[{ on := 15, ground := Ground.data }, { on := 22, ground := Ground.data }], guard := none }) (v := ?vn119k23) rfl (by kernel_rfl) (by kernel_rfl) (by kernel_rfl) (fun _ _ _ h => h) (Or.inl ⟨by kernel_rfl, ?yn119k23⟩) (by assumption) ?rn119k23
  case yn119k23 => intro w hSw; (try dsimp only at hSw); go_simp; try with_reducible rfl
  try simp only [Act.put, List.setIfInBounds_toArray, List.set_cons_zero, List.set_cons_succ]
  refine wpAnyH_take (i := 24) (oi := { dst := some 29, op := Op.move (Operand.tmp 28), type := 4, pos := "ref.go:358", after := #[{ on := 23, ground := Ground.data }, { on := 21, ground := Ground.chain }], guard := none }) (v := ?vn120k24) rfl (by kernel_rfl) (by kernel_rfl) (by kernel_rfl) (fun _ _ _ h => h) (Or.inl ⟨by kernel_rfl, ?yn120k24⟩) (by assumption) ?rn120k24
  case yn120k24 => intro w hSw; (try dsimp only at hSw); go_simp; try with_reducible rfl
  try simp only [Act.put, List.setIfInBounds_toArray, List.set_cons_zero, List.set_cons_succ]
  refine wpAnyH_take (i := 25) (oi := { dst := some 30, op := Op.fieldAddr 24 (Operand.tmp 2) 2, type := 0, pos := "ref.go:358", after := #[{ on := 24, ground := Ground.guard }], guard := some (24, true) }) (v := ?vn121k25) rfl (by kernel_rfl) (by kernel_rfl) (by kernel_rfl) (fun _ _ _ h => h) (Or.inl ⟨by kernel_rfl, ?yn121k25⟩) (by assumption) ?rn121k25
  case yn121k25 => intro w hSw; (try dsimp only at hSw); go_simp; try with_reducible rfl
  try simp only [Act.put, List.setIfInBounds_toArray, List.set_cons_zero, List.set_cons_succ]
  refine wpAnyH_take (i := 26) (oi := { dst := some 31, op := Op.load 3 (Operand.tmp 30), type := 3, pos := "ref.go:358", after := #[{ on := 25, ground := Ground.data }, { on := 24, ground := Ground.guard }], guard := some (24, true) }) (v := ?vn122k26) rfl (by kernel_rfl) (by kernel_rfl) (by kernel_rfl) (fun _ _ _ h => h) (Or.inl ⟨by kernel_rfl, ?yn122k26⟩) (by assumption) ?rn122k26
  case yn122k26 => intro w hSw; (try dsimp only at hSw); go_simp; try with_reducible rfl
  try simp only [Act.put, List.setIfInBounds_toArray, List.set_cons_zero, List.set_cons_succ]
  refine wpAnyH_take (i := 27) (oi := { dst := some 32, op := Op.fieldAddr 24 (Operand.tmp 3) 2, type := 0, pos := "ref.go:358", after := #[{ on := 24, ground := Ground.guard }], guard := some (24, true) }) (v := ?vn123k27) rfl (by kernel_rfl) (by kernel_rfl) (by kernel_rfl) (fun _ _ _ h => h) (Or.inl ⟨by kernel_rfl, ?yn123k27⟩) (by assumption) ?rn123k27
  case yn123k27 => intro w hSw; (try dsimp only at hSw); go_simp; try with_reducible rfl
  try simp only [Act.put, List.setIfInBounds_toArray, List.set_cons_zero, List.set_cons_succ]
  refine wpAnyH_take (i := 28) (oi := { dst := some 33, op := Op.load 3 (Operand.tmp 32), type := 3, pos := "ref.go:358", after := #[{ on := 27, ground := Ground.data }, { on := 24, ground := Ground.guard }], guard := some (24, true) }) (v := ?vn124k28) rfl (by kernel_rfl) (by kernel_rfl) (by kernel_rfl) (fun _ _ _ h => h) (Or.inl ⟨by kernel_rfl, ?yn124k28⟩) (by assumption) ?rn124k28
  case yn124k28 => intro w hSw; (try dsimp only at hSw); go_simp; try with_reducible rfl
  try simp only [Act.put, List.setIfInBounds_toArray, List.set_cons_zero, List.set_cons_succ]
  refine wpAnyH_take (i := 29) (oi := { dst := some 34, op := Op.binOp BinOp.eql 3 (Operand.tmp 31) (Operand.tmp 33) 3, type := 4, pos := "ref.go:358", after := #[{ on := 26, ground := Ground.data }, { on := 28, ground := Ground.data }, { on := 24, ground := Ground.guard }], guard := some (24, true) }) (v := ?vn125k29) rfl (by kernel_rfl) (by kernel_rfl) (by kernel_rfl) (fun _ _ _ h => h) (Or.inl ⟨by kernel_rfl, ?yn125k29⟩) (by assumption) ?rn125k29
  case yn125k29 => intro w hSw; (try dsimp only at hSw); go_simp; try with_reducible rfl
  try simp only [Act.put, List.setIfInBounds_toArray, List.set_cons_zero, List.set_cons_succ]
  refine wpAnyH_take (i := 30) (oi := { dst := some 35, op := Op.pick (Operand.tmp 29) (Operand.tmp 34) (Operand.const (Value.bool false)), type := 4, pos := "ref.go:358", after := #[{ on := 24, ground := Ground.data }, { on := 29, ground := Ground.data }], guard := none }) (v := ?vn126k30) rfl (by kernel_rfl) (by kernel_rfl) (by kernel_rfl) (fun _ _ _ h => h) (Or.inl ⟨by kernel_rfl, ?yn126k30⟩) (by assumption) ?rn126k30
  case yn126k30 => intro w hSw; (try dsimp only at hSw); go_simp; try with_reducible rfl
  try simp only [Act.put, List.setIfInBounds_toArray, List.set_cons_zero, List.set_cons_succ]
  refine wpAnyH_take (i := 31) (oi := { dst := some 36, op := Op.move (Operand.tmp 35), type := 4, pos := "ref.go:358", after := #[{ on := 30, ground := Ground.data }, { on := 24, ground := Ground.chain }], guard := none }) (v := ?vn127k31) rfl (by kernel_rfl) (by kernel_rfl) (by kernel_rfl) (fun _ _ _ h => h) (Or.inl ⟨by kernel_rfl, ?yn127k31⟩) (by assumption) ?rn127k31
  case yn127k31 => intro w hSw; (try dsimp only at hSw); go_simp; try with_reducible rfl
  try simp only [Act.put, List.setIfInBounds_toArray, List.set_cons_zero, List.set_cons_succ]
  refine wpAnyH_take (i := 32) (oi := { dst := some 37, op := Op.fieldAddr 24 (Operand.tmp 2) 3, type := 0, pos := "ref.go:358", after := #[{ on := 31, ground := Ground.guard }], guard := some (31, true) }) (v := ?vn128k32) rfl (by kernel_rfl) (by kernel_rfl) (by kernel_rfl) (fun _ _ _ h => h) (Or.inl ⟨by kernel_rfl, ?yn128k32⟩) (by assumption) ?rn128k32
  case yn128k32 => intro w hSw; (try dsimp only at hSw); go_simp; try with_reducible rfl
  try simp only [Act.put, List.setIfInBounds_toArray, List.set_cons_zero, List.set_cons_succ]
  refine wpAnyH_take (i := 33) (oi := { dst := some 38, op := Op.load 3 (Operand.tmp 37), type := 3, pos := "ref.go:358", after := #[{ on := 32, ground := Ground.data }, { on := 31, ground := Ground.guard }], guard := some (31, true) }) (v := ?vn129k33) rfl (by kernel_rfl) (by kernel_rfl) (by kernel_rfl) (fun _ _ _ h => h) (Or.inl ⟨by kernel_rfl, ?yn129k33⟩) (by assumption) ?rn129k33
  case yn129k33 => intro w hSw; (try dsimp only at hSw); go_simp; try with_reducible rfl
  try simp only [Act.put, List.setIfInBounds_toArray, List.set_cons_zero, List.set_cons_succ]
  refine wpAnyH_take (i := 34) (oi := { dst := some 39, op := Op.fieldAddr 24 (Operand.tmp 3) 3, type := 0, pos := "ref.go:358", after := #[{ on := 31, ground := Ground.guard }], guard := some (31, true) }) (v := ?vn130k34) rfl (by kernel_rfl) (by kernel_rfl) (by kernel_rfl) (fun _ _ _ h => h) (Or.inl ⟨by kernel_rfl, ?yn130k34⟩) (by assumption) ?rn130k34
  case yn130k34 => intro w hSw; (try dsimp only at hSw); go_simp; try with_reducible rfl
  try simp only [Act.put, List.setIfInBounds_toArray, List.set_cons_zero, List.set_cons_succ]
  refine wpAnyH_take (i := 35) (oi := { dst := some 40, op := Op.load 3 (Operand.tmp 39), type := 3, pos := "ref.go:358", after := #[{ on := 34, ground := Ground.data }, { on := 31, ground := Ground.guard }], guard := some (31, true) }) (v := ?vn131k35) rfl (by kernel_rfl) (by kernel_rfl) (by kernel_rfl) (fun _ _ _ h => h) (Or.inl ⟨by kernel_rfl, ?yn131k35⟩) (by assumption) ?rn131k35
  case yn131k35 => intro w hSw; (try dsimp only at hSw); go_simp; try with_reducible rfl
  try simp only [Act.put, List.setIfInBounds_toArray, List.set_cons_zero, List.set_cons_succ]
  refine wpAnyH_take (i := 36) (oi := { dst := some 41, op := Op.binOp BinOp.eql 3 (Operand.tmp 38) (Operand.tmp 40) 3, type := 4, pos := "ref.go:358", after := #[{ on := 33, ground := Ground.data }, { on := 35, ground := Ground.data }, { on := 31, ground := Ground.guard }], guard := some (31, true) }) (v := ?vn132k36) rfl (by kernel_rfl) (by kernel_rfl) (by kernel_rfl) (fun _ _ _ h => h) (Or.inl ⟨by kernel_rfl, ?yn132k36⟩) (by assumption) ?rn132k36
  case yn132k36 => intro w hSw; (try dsimp only at hSw); go_simp; try with_reducible rfl
  try simp only [Act.put, List.setIfInBounds_toArray, List.set_cons_zero, List.set_cons_succ]
  refine wpAnyH_take (i := 37) (oi := { dst := some 42, op := Op.pick (Operand.tmp 36) (Operand.tmp 41) (Operand.const (Value.bool false)), type := 4, pos := "ref.go:358", after := #[{ on := 31, ground := Ground.data }, { on := 36, ground := Ground.data }], guard := none }) (v := ?vn133k37) rfl (by kernel_rfl) (by kernel_rfl) (by kernel_rfl) (fun _ _ _ h => h) (Or.inl ⟨by kernel_rfl, ?yn133k37⟩) (by assumption) ?rn133k37
  case yn133k37 => intro w hSw; (try dsimp only at hSw); go_simp; try with_reducible rfl
  try simp only [Act.put, List.setIfInBounds_toArray, List.set_cons_zero, List.set_cons_succ]
  refine wpAnyH_take (i := 38) (oi := { dst := some 4, op := Op.assign (Operand.tmp 42), type := 4, pos := "ref.go:358", after := #[{ on := 37, ground := Ground.data }, { on := 31, ground := Ground.chain }, { on := 0, ground := Ground.phase }, { on := 1, ground := Ground.phase }, { on := 2, ground := Ground.phase }, { on := 3, ground := Ground.phase }, { on := 4, ground := Ground.phase }, { on := 5, ground := Ground.phase }, { on := 6, ground := Ground.phase }, { on := 7, ground := Ground.phase }, { on := 8, ground := Ground.phase }, { on := 9, ground := Ground.phase }, { on := 10, ground := Ground.phase }, { on := 11, ground := Ground.phase }, { on := 12, ground := Ground.phase }, { on := 13, ground := Ground.phase }, { on := 14, ground := Ground.phase }, { on := 15, ground := Ground.phase }, { on := 16, ground := Ground.phase }, { on := 17, ground := Ground.phase }, { on := 18, ground := Ground.phase }, { on := 19, ground := Ground.phase }, { on := 20, ground := Ground.phase }, { on := 21, ground := Ground.phase }, { on := 22, ground := Ground.phase }, { on := 23, ground := Ground.phase }, { on := 24, ground := Ground.phase }, { on := 25, ground := Ground.phase }, { on := 26, ground := Ground.phase }, { on := 27, ground := Ground.phase }, { on := 28, ground := Ground.phase }, { on := 29, ground := Ground.phase }, { on := 30, ground := Ground.phase }, { on := 31, ground := Ground.phase }, { on := 32, ground := Ground.phase }, { on := 33, ground := Ground.phase }, { on := 34, ground := Ground.phase }, { on := 35, ground := Ground.phase }, { on := 36, ground := Ground.phase }, { on := 37, ground := Ground.phase }], guard := none }) (v := ?vn134k38) rfl (by kernel_rfl) (by kernel_rfl) (by kernel_rfl) (fun _ _ _ h => h) (Or.inl ⟨by kernel_rfl, ?yn134k38⟩) (by assumption) ?rn134k38
  case yn134k38 => intro w hSw; (try dsimp only at hSw); go_simp; try with_reducible rfl
  try simp only [Act.put, List.setIfInBounds_toArray, List.set_cons_zero, List.set_cons_succ]
  refine wpAnyH_done (by kernel_rfl) ?_ _
  go_wp2_with fail
  go_ret
  exact ⟨rfl, BA.out⟩
set_option maxRecDepth 100000 in
set_option maxHeartbeats 8000000 in
theorem Same_c4 (lo hi lo' hi' : List Int) (mn mx mn' mx' : Int) (A B A' B' : Option Addr) (c1 c2 c1' c2' : Nat) (w : World) (ha : Ints w A lo) (hb : Ints w B hi) (ha' : Ints w A' lo') (hb' : Ints w B' hi') (hV : validFB lo hi mn mx = true) (hV' : validFB lo' hi' mn' mx' = true) (h1 : ((setN lo : Int) == (setN lo' : Int)) = true) (h2 : ((setN hi : Int) == (setN hi' : Int)) = true) (h3 : (mn == mn') = true) (h4 : (mx == mx') = true) :
    Calls Tryz.prog 10 #[.agg #[.slice A lo.length c1, .slice B hi.length c2, .int .i64 mn, .int .i64 mx], .agg #[.slice A' lo'.length c1', .slice B' hi'.length c2', .int .i64 mn', .int .i64 mx']] w fun e w' => e = .returned (.bool true) ∧ Below w.heap.size w w' := by
  have VP := Lib.hid (fun w1 (h : Below w.heap.size w w1) => FValid_r_any lo hi mn mx A B c1 c2 w1 (ha.over h) (hb.over h))
  have VQ := Lib.hid (fun w1 (h : Below w.heap.size w w1) => FValid_r_any lo' hi' mn' mx' A' B' c1' c2' w1 (ha'.over h) (hb'.over h))
  rw [hV] at VP
  rw [hV'] at VQ
  obtain ⟨hr1, hr2⟩ : lo.all inR = true ∧ hi.all inR = true := by
    unfold validFB elemsB at hV
    simp only [Bool.and_eq_true] at hV
    exact ⟨hV.1.1.1.2, hV.1.1.2.2⟩
  obtain ⟨hr3, hr4⟩ : lo'.all inR = true ∧ hi'.all inR = true := by
    unfold validFB elemsB at hV'
    simp only [Bool.and_eq_true] at hV'
    exact ⟨hV'.1.1.1.2, hV'.1.1.2.2⟩
  have S1 := Lib.hid (fun w1 (h : Below w.heap.size w w1) => rof_any lo A c1 w1 (ha.over h) hr1)
  have S2 := Lib.hid (fun w1 (h : Below w.heap.size w w1) => rof_any hi B c2 w1 (hb.over h) hr2)
  have T1 := Lib.hid (fun w1 (h : Below w.heap.size w w1) => rof_any lo' A' c1' w1 (ha'.over h) hr3)
  have T2 := Lib.hid (fun w1 (h : Below w.heap.size w w1) => rof_any hi' B' c2' w1 (hb'.over h) hr4)
  have hl1 := ha.1
  have hl2 := hb.1
  have hl3 := ha'.1
  have hl4 := hb'.1
  clear ha hb ha' hb' hV hV' hr1 hr2 hr3 hr4
  generalize lo.length = n1 at *
  generalize hi.length = n2 at *
  generalize lo'.length = n1' at *
  generalize hi'.length = n2' at *
  generalize setN lo = L at *
  generalize setN hi = H at *
  generalize setN lo' = L' at *
  generalize setN hi' = H' at *
  have BA := Lib.hid (show Below w.heap.size w ((w.alloc (.cells #[.slice A n1 c1, .slice B n2 c2, .int .i64 mn, .int .i64 mx] 24)).alloc (.cells #[.slice A' n1' c1', .slice B' n2' c2', .int .i64 mn', .int .i64 mx'] 24)) from ((Below.refl _ w).alloc (Nat.le_refl _) _).alloc (by simp) _)
  have BX := Lib.hid (show ∀ wx : World, Below (w.heap.size + 2) ((w.alloc (.cells #[.slice A n1 c1, .slice B n2 c2, .int .i64 mn, .int .i64 mx] 24)).alloc (.cells #[.slice A' n1' c1', .slice B' n2' c2', .int .i64 mn', .int .i64 mx'] 24)) wx → wx.cell? ⟨w.heap.size, 0, none⟩ = some (.slice A n1 c1) ∧ wx.cell? ⟨w.heap.size, 1, none⟩ = some (.slice B n2 c2) ∧ wx.cell? ⟨w.heap.size, 2, none⟩ = some (.int .i64 mn) ∧ wx.cell? ⟨w.heap.size, 3, none⟩ = some (.int .i64 mx) ∧ wx.cell? ⟨w.heap.size + 1, 0, none⟩ = some (.slice A' n1' c1') ∧ wx.cell? ⟨w.heap.size + 1, 1, none⟩ = some (.slice B' n2' c2') ∧ wx.cell? ⟨w.heap.size + 1, 2, none⟩ = some (.int .i64 mn') ∧ wx.cell? ⟨w.heap.size + 1, 3, none⟩ = some (.int .i64 mx') from fun wx h => by
    have hh := (h.block w.heap.size (by omega)).trans (heap_alloc2_old w (.cells #[.slice A n1 c1, .slice B n2 c2, .int .i64 mn, .int .i64 mx] 24) _)
    have hk := (h.block (w.heap.size + 1) (by omega)).trans (heap_alloc2_new w _ (.cells #[.slice A' n1' c1', .slice B' n2' c2', .int .i64 mn', .int .i64 mx'] 24))
    refine ⟨?_, ?_, ?_, ?_, ?_, ?_, ?_, ?_⟩ <;> (simp only [World.cell?, hh, hk]; rfl))
  have hz : w.heap.size + 2 ≤ ((w.alloc (.cells #[.slice A n1 c1, .slice B n2 c2, .int .i64 mn, .int .i64 mx] 24)).alloc (.cells #[.slice A' n1' c1', .slice B' n2' c2', .int .i64 mn', .int .i64 mx'] 24)).heap.size := by simp
  go_enter Tryz.func10, Tryz.ntmps10
  go_wp2_with fail
  generalize ((w.alloc (.cells #[.slice A n1 c1, .slice B n2 c2, .int .i64 mn, .int .i64 mx] 24)).alloc (.cells #[.slice A' n1' c1', .slice B' n2' c2', .int .i64 mn', .int .i64 mx'] 24)) = W at *
  have S0 : (fun wx : World => wx.cell? ⟨w.heap.size, 0, none⟩ = some (.slice A n1 c1) ∧ wx.cell? ⟨w.heap.size, 1, none⟩ = some (.slice B n2 c2) ∧ wx.cell? ⟨w.heap.size, 2, none⟩ = some (.int .i64 mn) ∧ wx.cell? ⟨w.heap.size, 3, none⟩ = some (.int .i64 mx) ∧ wx.cell? ⟨w.heap.size + 1, 0, none⟩ = some (.slice A' n1' c1') ∧ wx.cell? ⟨w.heap.size + 1, 1, none⟩ = some (.slice B' n2' c2') ∧ wx.cell? ⟨w.heap.size + 1, 2, none⟩ = some (.int .i64 mn') ∧ wx.cell? ⟨w.heap.size + 1, 3, none⟩ = some (.int .i64 mx')) W.drew := BX.out _ (Below.refl _ W).drew
  have BV := Lib.hid (show Below (w.heap.size + 2) W W.drew from (Below.refl _ W).drew)
  replace BA := Lib.hid (show Below w.heap.size w W.drew from BA.out.drew)
  have hvs : w.heap.size + 2 ≤ W.drew.heap.size := hz
  refine wp_region_held_drew (S := fun (wx : World) => wx.cell? ⟨w.heap.size, 0, none⟩ = some (.slice A n1 c1) ∧ wx.cell? ⟨w.heap.size, 1, none⟩ = some (.slice B n2 c2) ∧ wx.cell? ⟨w.heap.size, 2, none⟩ = some (.int .i64 mn) ∧ wx.cell? ⟨w.heap.size, 3, none⟩ = some (.int .i64 mx) ∧ wx.cell? ⟨w.heap.size + 1, 0, none⟩ = some (.slice A' n1' c1') ∧ wx.cell? ⟨w.heap.size + 1, 1, none⟩ = some (.slice B' n2' c2') ∧ wx.cell? ⟨w.heap.size + 1, 2, none⟩ = some (.int .i64 mn') ∧ wx.cell? ⟨w.heap.size + 1, 3, none⟩ = some (.int .i64 mx')) (by kernel_rfl) S0 (fun hHeld => ?_)
  clear S0 hz
  generalize W.drew = V at *
  refine wpAnyH_take (i := 0) (oi := { dst := some 5, op := Op.load 24 (Operand.tmp 2), type := 24, pos := "ref.go:358", after := #[], guard := none }) (v := ?vn135k0) rfl (by kernel_rfl) (by kernel_rfl) (by kernel_rfl) (fun _ _ _ h => h) (Or.inl ⟨by kernel_rfl, ?yn135k0⟩) (by assumption) ?rn135k0
  case yn135k0 => intro w hSw; (try dsimp only at hSw); go_simp; try with_reducible rfl
  try simp only [Act.put, List.setIfInBounds_toArray, List.set_cons_zero, List.set_cons_succ]
  refine wpAnyH_ready (rs := [1]) (by kernel_rfl) (by simp) (AllReadyH.cons (o := { dst := some 6, op := Op.call { callee := Callee.value (Operand.func 23), args := #[Operand.tmp 5], argTypes := #[24] }, type := 4, pos := "ref.go:358", after := #[{ on := 0, ground := Ground.data }], guard := none }) rfl (fun K hK => ?_) AllReadyH.nil)
  go_simp
  refine (VP.out _ BA.out).mono ?_
  rintro e y0 ⟨rfl, hb⟩
  replace BV := Lib.hid (BV.out.trans (hb.mono hvs))
  replace BA := Lib.hid (BA.out.trans (hb.mono BA.out.size))
  replace hvs : w.heap.size + 2 ≤ y0.heap.size := Nat.le_trans hvs hb.size
  clear hb hHeld
  refine hK.out _ _ (BX.out _ BV.out) (fun hHeld => ?_)
  clear hK K
  try simp only [Act.put, List.setIfInBounds_toArray, List.set_cons_zero, List.set_cons_succ]
  refine wpAnyH_take (i := 2) (oi := { dst := some 7, op := Op.move (Operand.tmp 6), type := 4, pos := "ref.go:358", after := #[{ on := 1, ground := Ground.data }, { on := 1, ground := Ground.chain }], guard := none }) (v := ?vn136k2) rfl (by kernel_rfl) (by kernel_rfl) (by kernel_rfl) (fun _ _ _ h => h) (Or.inl ⟨by kernel_rfl, ?yn136k2⟩) (by assumption) ?rn136k2
  case yn136k2 => intro w hSw; (try dsimp only at hSw); go_simp; try with_reducible rfl
  try simp only [Act.put, List.setIfInBounds_toArray, List.set_cons_zero, List.set_cons_succ]
  refine wpAnyH_take (i := 3) (oi := { dst := some 8, op := Op.load 24 (Operand.tmp 3), type := 24, pos := "ref.go:358", after := #[{ on := 2, ground := Ground.guard }], guard := some (2, true) }) (v := ?vn137k3) rfl (by kernel_rfl) (by kernel_rfl) (by kernel_rfl) (fun _ _ _ h => h) (Or.inl ⟨by kernel_rfl, ?yn137k3⟩) (by assumption) ?rn137k3
  case yn137k3 => intro w hSw; (try dsimp only at hSw); go_simp; try with_reducible rfl
  try simp only [Act.put, List.setIfInBounds_toArray, List.set_cons_zero, List.set_cons_succ]
  refine wpAnyH_ready (rs := [4]) (by kernel_rfl) (by simp) (AllReadyH.cons (o := { dst := some 9, op := Op.call { callee := Callee.value (Operand.func 23), args := #[Operand.tmp 8], argTypes := #[24] }, type := 4, pos := "ref.go:358", after := #[{ on := 3, ground := Ground.data }, { on := 2, ground := Ground.chain }, { on := 2, ground := Ground.guard }], guard := some (2, true) }) rfl (fun K hK => ?_) AllReadyH.nil)
  go_simp
  refine (VQ.out _ BA.out).mono ?_
  rintro e y1 ⟨rfl, hb⟩
  replace BV := Lib.hid (BV.out.trans (hb.mono hvs))
  replace BA := Lib.hid (BA.out.trans (hb.mono BA.out.size))
  replace hvs : w.heap.size + 2 ≤ y1.heap.size := Nat.le_trans hvs hb.size
  clear hb hHeld
  refine hK.out _ _ (BX.out _ BV.out) (fun hHeld => ?_)
  clear hK K
  try simp only [Act.put, List.setIfInBounds_toArray, List.set_cons_zero, List.set_cons_succ]
  refine wpAnyH_take (i := 5) (oi := { dst := some 10, op := Op.pick (Operand.tmp 7) (Operand.tmp 9) (Operand.const (Value.bool false)), type := 4, pos := "ref.go:358", after := #[{ on := 2, ground := Ground.data }, { on := 4, ground := Ground.data }], guard := none }) (v := ?vn138k5) rfl (by kernel_rfl) (by kernel_rfl) (by kernel_rfl) (fun _ _ _ h => h) (Or.inl ⟨by kernel_rfl, ?yn138k5⟩) (by assumption) ?rn138k5
  case yn138k5 => intro w hSw; (try dsimp only at hSw); go_simp; try with_reducible rfl
  try simp only [Act.put, List.setIfInBounds_toArray, List.set_cons_zero, List.set_cons_succ]
  refine wpAnyH_take (i := 6) (oi := { dst := some 11, op := Op.move (Operand.tmp 10), type := 4, pos := "ref.go:358", after := #[{ on := 5, ground := Ground.data }, { on := 4, ground := Ground.chain }], guard := none }) (v := ?vn139k6) rfl (by kernel_rfl) (by kernel_rfl) (by kernel_rfl) (fun _ _ _ h => h) (Or.inl ⟨by kernel_rfl, ?yn139k6⟩) (by assumption) ?rn139k6
  case yn139k6 => intro w hSw; (try dsimp only at hSw); go_simp; try with_reducible rfl
  try simp only [Act.put, List.setIfInBounds_toArray, List.set_cons_zero, List.set_cons_succ]
  refine wpAnyH_take (i := 7) (oi := { dst := some 12, op := Op.fieldAddr 24 (Operand.tmp 2) 0, type := 0, pos := "ref.go:358", after := #[{ on := 6, ground := Ground.guard }], guard := some (6, true) }) (v := ?vn140k7) rfl (by kernel_rfl) (by kernel_rfl) (by kernel_rfl) (fun _ _ _ h => h) (Or.inl ⟨by kernel_rfl, ?yn140k7⟩) (by assumption) ?rn140k7
  case yn140k7 => intro w hSw; (try dsimp only at hSw); go_simp; try with_reducible rfl
  try simp only [Act.put, List.setIfInBounds_toArray, List.set_cons_zero, List.set_cons_succ]
  refine wpAnyH_take (i := 8) (oi := { dst := some 13, op := Op.load 22 (Operand.tmp 12), type := 22, pos := "ref.go:358", after := #[{ on := 7, ground := Ground.data }, { on := 6, ground := Ground.guard }], guard := some (6, true) }) (v := ?vn141k8) rfl (by kernel_rfl) (by kernel_rfl) (by kernel_rfl) (fun _ _ _ h => h) (Or.inl ⟨by kernel_rfl, ?yn141k8⟩) (by assumption) ?rn141k8
  case yn141k8 => intro w hSw; (try dsimp only at hSw); go_simp; try with_reducible rfl
  try simp only [Act.put, List.setIfInBounds_toArray, List.set_cons_zero, List.set_cons_succ]
  refine wpAnyH_take (i := 10) (oi := { dst := some 15, op := Op.fieldAddr 24 (Operand.tmp 3) 0, type := 0, pos := "ref.go:358", after := #[{ on := 6, ground := Ground.guard }], guard := some (6, true) }) (v := ?vn142k10) rfl (by kernel_rfl) (by kernel_rfl) (by kernel_rfl) (fun _ _ _ h => h) (Or.inl ⟨by kernel_rfl, ?yn142k10⟩) (by assumption) ?rn142k10
  case yn142k10 => intro w hSw; (try dsimp only at hSw); go_simp; try with_reducible rfl
  try simp only [Act.put, List.setIfInBounds_toArray, List.set_cons_zero, List.set_cons_succ]
  refine wpAnyH_take (i := 11) (oi := { dst := some 16, op := Op.load 22 (Operand.tmp 15), type := 22, pos := "ref.go:358", after := #[{ on := 10, ground := Ground.data }, { on := 6, ground := Ground.guard }], guard := some (6, true) }) (v := ?vn143k11) rfl (by kernel_rfl) (by kernel_rfl) (by kernel_rfl) (fun _ _ _ h => h) (Or.inl ⟨by kernel_rfl, ?yn143k11⟩) (by assumption) ?rn143k11
  case yn143k11 => intro w hSw; (try dsimp only at hSw); go_simp; try with_reducible rfl
  try simp only [Act.put, List.setIfInBounds_toArray, List.set_cons_zero, List.set_cons_succ]
  refine wpAnyH_ready (rs := [9]) (by kernel_rfl) (by simp) (AllReadyH.cons (o := { dst := some 14, op := Op.call { callee := Callee.value (Operand.func 24), args := #[Operand.tmp 13], argTypes := #[22] }, type := 52, pos := "ref.go:358", after := #[{ on := 8, ground := Ground.data }, { on := 6, ground := Ground.chain }, { on := 6, ground := Ground.guard }], guard := some (6, true) }) rfl (fun K hK => ?_) AllReadyH.nil)
  go_simp
  refine (S1.out _ BA.out).mono ?_
  rintro e y2 ⟨rfl, rfl⟩
  clear hHeld
  refine hK.out _ _ (BX.out _ BV.out) (fun hHeld => ?_)
  clear hK K
  try simp only [Act.put, List.setIfInBounds_toArray, List.set_cons_zero, List.set_cons_succ]
  refine wpAnyH_ready (rs := [12]) (by kernel_rfl) (by simp) (AllReadyH.cons (o := { dst := some 17, op := Op.call { callee := Callee.value (Operand.func 24), args := #[Operand.tmp 16], argTypes := #[22] }, type := 52, pos := "ref.go:358", after := #[{ on := 11, ground := Ground.data }, { on := 9, ground := Ground.chain }, { on := 6, ground := Ground.guard }], guard := some (6, true) }) rfl (fun K hK => ?_) AllReadyH.nil)
  go_simp
  refine (T1.out _ BA.out).mono ?_
  rintro e y3 ⟨rfl, rfl⟩
  clear hHeld
  refine hK.out _ _ (BX.out _ BV.out) (fun hHeld => ?_)
  clear hK K
  try simp only [Act.put, List.setIfInBounds_toArray, List.set_cons_zero, List.set_cons_succ]
  refine wpAnyH_take (i := 13) (oi := { dst := some 18, op := Op.binOp BinOp.eql 52 (Operand.tmp 14) (Operand.tmp 17) 52, type := 4, pos := "ref.go:358", after := #[{ on := 9, ground := Ground.data }, { on := 12, ground := Ground.data }, { on := 6, ground := Ground.guard }], guard := some (6, true) }) (v := ?vn144k13) rfl (by kernel_rfl) (by kernel_rfl) (by kernel_rfl) (fun _ _ _ h => h) (Or.inl ⟨by kernel_rfl, ?yn144k13⟩) (by assumption) ?rn144k13
  case yn144k13 => intro w hSw; (try dsimp only at hSw); go_simp; try with_reducible rfl
  try simp only [Act.put, List.setIfInBounds_toArray, List.set_cons_zero, List.set_cons_succ]
  refine wpAnyH_take (i := 14) (oi := { dst := some 19, op := Op.pick (Operand.tmp 11) (Operand.tmp 18) (Operand.const (Value.bool false)), type := 4, pos := "ref.go:358", after := #[{ on := 6, ground := Ground.data }, { on := 13, ground := Ground.data }], guard := none }) (v := ?vn145k14) rfl (by kernel_rfl) (by kernel_rfl) (by kernel_rfl) (fun _ _ _ h => h) (Or.inl ⟨by kernel_rfl, ?yn145k14⟩) (by assumption) ?rn145k14
  case yn145k14 => intro w hSw; (try dsimp only at hSw); go_simp; try with_reducible rfl
  try simp only [Act.put, List.setIfInBounds_toArray, List.set_cons_zero, List.set_cons_succ]
  refine wpAnyH_take (i := 15) (oi := { dst := some 20, op := Op.move (Operand.tmp 19), type := 4, pos := "ref.go:358", after := #[{ on := 14, ground := Ground.data }, { on := 12, ground := Ground.chain }], guard := none }) (v := ?vn146k15) rfl (by kernel_rfl) (by kernel_rfl) (by kernel_rfl) (fun _ _ _ h => h) (Or.inl ⟨by kernel_rfl, ?yn146k15⟩) (by assumption) ?rn146k15
  case yn146k15 => intro w hSw; (try dsimp only at hSw); go_simp; try with_reducible rfl
  try simp only [Act.put, List.setIfInBounds_toArray, List.set_cons_zero, List.set_cons_succ]
  refine wpAnyH_take (i := 16) (oi := { dst := some 21, op := Op.fieldAddr 24 (Operand.tmp 2) 1, type := 0, pos := "ref.go:358", after := #[{ on := 15, ground := Ground.guard }], guard := some (15, true) }) (v := ?vn147k16) rfl (by kernel_rfl) (by kernel_rfl) (by kernel_rfl) (fun _ _ _ h => h) (Or.inl ⟨by kernel_rfl, ?yn147k16⟩) (by assumption) ?rn147k16
  case yn147k16 => intro w hSw; (try dsimp only at hSw); go_simp; try with_reducible rfl
  try simp only [Act.put, List.setIfInBounds_toArray, List.set_cons_zero, List.set_cons_succ]
  refine wpAnyH_take (i := 17) (oi := { dst := some 22, op := Op.load 22 (Operand.tmp 21), type := 22, pos := "ref.go:358", after := #[{ on := 16, ground := Ground.data }, { on := 15, ground := Ground.guard }], guard := some (15, true) }) (v := ?vn148k17) rfl (by kernel_rfl) (by kernel_rfl) (by kernel_rfl) (fun _ _ _ h => h) (Or.inl ⟨by kernel_rfl, ?yn148k17⟩) (by assumption) ?rn148k17
  case yn148k17 => intro w hSw; (try dsimp only at hSw); go_simp; try with_reducible rfl
  try simp only [Act.put, List.setIfInBounds_toArray, List.set_cons_zero, List.set_cons_succ]
  refine wpAnyH_take (i := 19) (oi := { dst := some 24, op := Op.fieldAddr 24 (Operand.tmp 3) 1, type := 0, pos := "ref.go:358", after := #[{ on := 15, ground := Ground.guard }], guard := some (15, true) }) (v := ?vn149k19) rfl (by kernel_rfl) (by kernel_rfl) (by kernel_rfl) (fun _ _ _ h => h) (Or.inl ⟨by kernel_rfl, ?yn149k19⟩) (by assumption) ?rn149k19
  case yn149k19 => intro w hSw; (try dsimp only at hSw); go_simp; try with_reducible rfl
  try simp only [Act.put, List.setIfInBounds_toArray, List.set_cons_zero, List.set_cons_succ]
  refine wpAnyH_take (i := 20) (oi := { dst := some 25, op := Op.load 22 (Operand.tmp 24), type := 22, pos := "ref.go:358", after := #[{ on := 19, ground := Ground.data }, { on := 15, ground := Ground.guard }], guard := some (15, true) }) (v := ?vn150k20) rfl (by kernel_rfl) (by kernel_rfl) (by kernel_rfl) (fun _ _ _ h => h) (Or.inl ⟨by kernel_rfl, ?yn150k20⟩) (by assumption) ?rn150k20
  case yn150k20 => intro w hSw; (try dsimp only at hSw); go_simp; try with_reducible rfl
  try simp only [Act.put, List.setIfInBounds_toArray, List.set_cons_zero, List.set_cons_succ]
  refine wpAnyH_ready (rs := [18]) (by kernel_rfl) (by simp) (AllReadyH.cons (o := { dst := some 23, op := Op.call { callee := Callee.value (Operand.func 24), args := #[Operand.tmp 22], argTypes := #[22] }, type := 52, pos := "ref.go:358", after := #[{ on := 17, ground := Ground.data }, { on := 15, ground := Ground.chain }, { on := 15, ground := Ground.guard }], guard := some (15, true) }) rfl (fun K hK => ?_) AllReadyH.nil)
  go_simp
  refine (S2.out _ BA.out).mono ?_
  rintro e y4 ⟨rfl, rfl⟩
  clear hHeld
  refine hK.out _ _ (BX.out _ BV.out) (fun hHeld => ?_)
  clear hK K
  try simp only [Act.put, List.setIfInBounds_toArray, List.set_cons_zero, List.set_cons_succ]
  refine wpAnyH_ready (rs := [21]) (by kernel_rfl) (by simp) (AllReadyH.cons (o := { dst := some 26, op := Op.call { callee := Callee.value (Operand.func 24), args := #[Operand.tmp 25], argTypes := #[22] }, type := 52, pos := "ref.go:358", after := #[{ on := 20, ground := Ground.data }, { on := 18, ground := Ground.chain }, { on := 15, ground := Ground.guard }], guard := some (15, true) }) rfl (fun K hK => ?_) AllReadyH.nil)
  go_simp
  refine (T2.out _ BA.out).mono ?_
  rintro e y5 ⟨rfl, rfl⟩
  clear hHeld
  refine hK.out _ _ (BX.out _ BV.out) (fun hHeld => ?_)
  clear hK K
  try simp only [Act.put, List.setIfInBounds_toArray, List.set_cons_zero, List.set_cons_succ]
  refine wpAnyH_take (i := 22) (oi := { dst := some 27, op := Op.binOp BinOp.eql 52 (Operand.tmp 23) (Operand.tmp 26) 52, type := 4, pos := "ref.go:358", after := #[{ on := 18, ground := Ground.data }, { on := 21, ground := Ground.data }, { on := 15, ground := Ground.guard }], guard := some (15, true) }) (v := ?vn151k22) rfl (by kernel_rfl) (by kernel_rfl) (by kernel_rfl) (fun _ _ _ h => h) (Or.inl ⟨by kernel_rfl, ?yn151k22⟩) (by assumption) ?rn151k22
  case yn151k22 => intro w hSw; (try dsimp only at hSw); go_simp; try with_reducible rfl
  try simp only [Act.put, List.setIfInBounds_toArray, List.set_cons_zero, List.set_cons_succ]
  refine wpAnyH_take (i := 23) (oi := { dst := some 28, op := Op.pick (Operand.tmp 20) (Operand.tmp 27) (Operand.const (Value.bool false)), type := 4, pos := "ref.go:358", after := #[{ on := 15, ground := Ground.data }, { on := 22, ground := Ground.data }], guard := none }) (v := ?vn152k23) rfl (by kernel_rfl) (by kernel_rfl) (by kernel_rfl) (fun _ _ _ h => h) (Or.inl ⟨by kernel_rfl, ?yn152k23⟩) (by assumption) ?rn152k23
  case yn152k23 => intro w hSw; (try dsimp only at hSw); go_simp; try with_reducible rfl
  try simp only [Act.put, List.setIfInBounds_toArray, List.set_cons_zero, List.set_cons_succ]
  refine wpAnyH_take (i := 24) (oi := { dst := some 29, op := Op.move (Operand.tmp 28), type := 4, pos := "ref.go:358", after := #[{ on := 23, ground := Ground.data }, { on := 21, ground := Ground.chain }], guard := none }) (v := ?vn153k24) rfl (by kernel_rfl) (by kernel_rfl) (by kernel_rfl) (fun _ _ _ h => h) (Or.inl ⟨by kernel_rfl, ?yn153k24⟩) (by assumption) ?rn153k24
  case yn153k24 => intro w hSw; (try dsimp only at hSw); go_simp; try with_reducible rfl
  try simp only [Act.put, List.setIfInBounds_toArray, List.set_cons_zero, List.set_cons_succ]
  refine wpAnyH_take (i := 25) (oi := { dst := some 30, op := Op.fieldAddr 24 (Operand.tmp 2) 2, type := 0, pos := "ref.go:358", after := #[{ on := 24, ground := Ground.guard }], guard := some (24, true) }) (v := ?vn154k25) rfl (by kernel_rfl) (by kernel_rfl) (by kernel_rfl) (fun _ _ _ h => h) (Or.inl ⟨by kernel_rfl, ?yn154k25⟩) (by assumption) ?rn154k25
  case yn154k25 => intro w hSw; (try dsimp only at hSw); go_simp; try with_reducible rfl
  try simp only [Act.put, List.setIfInBounds_toArray, List.set_cons_zero, List.set_cons_succ]
  refine wpAnyH_take (i := 26) (oi := { dst := some 31, op := Op.load 3 (Operand.tmp 30), type := 3, pos := "ref.go:358", after := #[{ on := 25, ground := Ground.data }, { on := 24, ground := Ground.guard }], guard := some (24, true) }) (v := ?vn155k26) rfl (by kernel_rfl) (by kernel_rfl) (by kernel_rfl) (fun _ _ _ h => h) (Or.inl ⟨by kernel_rfl, ?yn155k26⟩) (by assumption) ?rn155k26
  case yn155k26 => intro w hSw; (try dsimp only at hSw); go_simp; try with_reducible rfl
  try simp only [Act.put, List.setIfInBounds_toArray, List.set_cons_zero, List.set_cons_succ]
  refine wpAnyH_take (i := 27) (oi := { dst := some 32, op := Op.fieldAddr 24 (Operand.tmp 3) 2, type := 0, pos := "ref.go:358", after := #[{ on := 24, ground := Ground.guard }], guard := some (24, true) }) (v := ?vn156k27) rfl (by kernel_rfl) (by kernel_rfl) (by kernel_rfl) (fun _ _ _ h => h) (Or.inl ⟨by kernel_rfl, ?yn156k27⟩) (by assumption) ?rn156k27
  case yn156k27 => intro w hSw; (try dsimp only at hSw); go_simp; try with_reducible rfl
  try simp only [Act.put, List.setIfInBounds_toArray, List.set_cons_zero, List.set_cons_succ]
  refine wpAnyH_take (i := 28) (oi := { dst := some 33, op := Op.load 3 (Operand.tmp 32), type := 3, pos := "ref.go:358", after := #[{ on := 27, ground := Ground.data }, { on := 24, ground := Ground.guard }], guard := some (24, true) }) (v := ?vn157k28) rfl (by kernel_rfl) (by kernel_rfl) (by kernel_rfl) (fun _ _ _ h => h) (Or.inl ⟨by kernel_rfl, ?yn157k28⟩) (by assumption) ?rn157k28
  case yn157k28 => intro w hSw; (try dsimp only at hSw); go_simp; try with_reducible rfl
  try simp only [Act.put, List.setIfInBounds_toArray, List.set_cons_zero, List.set_cons_succ]
  refine wpAnyH_take (i := 29) (oi := { dst := some 34, op := Op.binOp BinOp.eql 3 (Operand.tmp 31) (Operand.tmp 33) 3, type := 4, pos := "ref.go:358", after := #[{ on := 26, ground := Ground.data }, { on := 28, ground := Ground.data }, { on := 24, ground := Ground.guard }], guard := some (24, true) }) (v := ?vn158k29) rfl (by kernel_rfl) (by kernel_rfl) (by kernel_rfl) (fun _ _ _ h => h) (Or.inl ⟨by kernel_rfl, ?yn158k29⟩) (by assumption) ?rn158k29
  case yn158k29 => intro w hSw; (try dsimp only at hSw); go_simp; try with_reducible rfl
  try simp only [Act.put, List.setIfInBounds_toArray, List.set_cons_zero, List.set_cons_succ]
  refine wpAnyH_take (i := 30) (oi := { dst := some 35, op := Op.pick (Operand.tmp 29) (Operand.tmp 34) (Operand.const (Value.bool false)), type := 4, pos := "ref.go:358", after := #[{ on := 24, ground := Ground.data }, { on := 29, ground := Ground.data }], guard := none }) (v := ?vn159k30) rfl (by kernel_rfl) (by kernel_rfl) (by kernel_rfl) (fun _ _ _ h => h) (Or.inl ⟨by kernel_rfl, ?yn159k30⟩) (by assumption) ?rn159k30
  case yn159k30 => intro w hSw; (try dsimp only at hSw); go_simp; try with_reducible rfl
  try simp only [Act.put, List.setIfInBounds_toArray, List.set_cons_zero, List.set_cons_succ]
  refine wpAnyH_take (i := 31) (oi := { dst := some 36, op := Op.move (Operand.tmp 35), type := 4, pos := "ref.go:358", after := #[{ on := 30, ground := Ground.data }, { on := 24, ground := Ground.chain }], guard := none }) (v := ?vn160k31) rfl (by kernel_rfl) (by kernel_rfl) (by kernel_rfl) (fun _ _ _ h => h) (Or.inl ⟨by kernel_rfl, ?yn160k31⟩) (by assumption) ?rn160k31
  case yn160k31 => intro w hSw; (try dsimp only at hSw); go_simp; try with_reducible rfl
  try simp only [Act.put, List.setIfInBounds_toArray, List.set_cons_zero, List.set_cons_succ]
  refine wpAnyH_take (i := 32) (oi := { dst := some 37, op := Op.fieldAddr 24 (Operand.tmp 2) 3, type := 0, pos := "ref.go:358", after := #[{ on := 31, ground := Ground.guard }], guard := some (31, true) }) (v := ?vn161k32) rfl (by kernel_rfl) (by kernel_rfl) (by kernel_rfl) (fun _ _ _ h => h) (Or.inl ⟨by kernel_rfl, ?yn161k32⟩) (by assumption) ?rn161k32
  case yn161k32 => intro w hSw; (try dsimp only at hSw); go_simp; try with_reducible rfl
  try simp only [Act.put, List.setIfInBounds_toArray, List.set_cons_zero, List.set_cons_succ]
  refine wpAnyH_take (i := 33) (oi := { dst := some 38, op := Op.load 3 (Operand.tmp 37), type := 3, pos := "ref.go:358", after := #[{ on := 32, ground := Ground.data }, { on := 31, ground := Ground.guard }], guard := some (31, true) }) (v := ?vn162k33) rfl (by kernel_rfl) (by kernel_rfl) (by kernel_rfl) (fun _ _ _ h => h) (Or.inl ⟨by kernel_rfl, ?yn162k33⟩) (by assumption) ?rn162k33
  case yn162k33 => intro w hSw; (try dsimp only at hSw); go_simp; try with_reducible rfl
  try simp only [Act.put, List.setIfInBounds_toArray, List.set_cons_zero, List.set_cons_succ]
  refine wpAnyH_take (i := 34) (oi := { dst := some 39, op := Op.fieldAddr 24 (Operand.tmp 3) 3, type := 0, pos := "ref.go:358", after := #[{ on := 31, ground := Ground.guard }], guard := some (31, true) }) (v := ?vn163k34) rfl (by kernel_rfl) (by kernel_rfl) (by kernel_rfl) (fun _ _ _ h => h) (Or.inl ⟨by kernel_rfl, ?yn163k34⟩) (by assumption) ?rn163k34
  case yn163k34 => intro w hSw; (try dsimp only at hSw); go_simp; try with_reducible rfl
  try simp only [Act.put, List.setIfInBounds_toArray, List.set_cons_zero, List.set_cons_succ]
  refine wpAnyH_take (i := 35) (oi := { dst := some 40, op := Op.load 3 (Operand.tmp 39), type := 3, pos := "ref.go:358", after := #[{ on := 34, ground := Ground.data }, { on := 31, ground := Ground.guard }], guard := some (31, true) }) (v := ?vn164k35) rfl (by kernel_rfl) (by kernel_rfl) (by kernel_rfl) (fun _ _ _ h => h) (Or.inl ⟨by kernel_rfl, ?yn164k35⟩) (by assumption) ?rn164k35
  case yn164k35 => intro w hSw; (try dsimp only at hSw); go_simp; try with_reducible rfl
  try simp only [Act.put, List.setIfInBounds_toArray, List.set_cons_zero, List.set_cons_succ]
  refine wpAnyH_take (i := 36) (oi := { dst := some 41, op := Op.binOp BinOp.eql 3 (Operand.tmp 38) (Operand.tmp 40) 3, type := 4, pos := "ref.go:358", after := #[{ on := 33, ground := Ground.data }, { on := 35, ground := Ground.data }, { on := 31, ground := Ground.guard }], guard := some (31, true) }) (v := ?vn165k36) rfl (by kernel_rfl) (by kernel_rfl) (by kernel_rfl) (fun _ _ _ h => h) (Or.inl ⟨by kernel_rfl, ?yn165k36⟩) (by assumption) ?rn165k36
  case yn165k36 => intro w hSw; (try dsimp only at hSw); go_simp; try with_reducible rfl
  try simp only [Act.put, List.setIfInBounds_toArray, List.set_cons_zero, List.set_cons_succ]
  refine wpAnyH_take (i := 37) (oi := { dst := some 42, op := Op.pick (Operand.tmp 36) (Operand.tmp 41) (Operand.const (Value.bool false)), type := 4, pos := "ref.go:358", after := #[{ on := 31, ground := Ground.data }, { on := 36, ground := Ground.data }], guard := none }) (v := ?vn166k37) rfl (by kernel_rfl) (by kernel_rfl) (by kernel_rfl) (fun _ _ _ h => h) (Or.inl ⟨by kernel_rfl, ?yn166k37⟩) (by assumption) ?rn166k37
  case yn166k37 => intro w hSw; (try dsimp only at hSw); go_simp; try with_reducible rfl
  try simp only [Act.put, List.setIfInBounds_toArray, List.set_cons_zero, List.set_cons_succ]
  refine wpAnyH_take (i := 38) (oi := { dst := some 4, op := Op.assign (Operand.tmp 42), type := 4, pos := "ref.go:358", after := #[{ on := 37, ground := Ground.data }, { on := 31, ground := Ground.chain }, { on := 0, ground := Ground.phase }, { on := 1, ground := Ground.phase }, { on := 2, ground := Ground.phase }, { on := 3, ground := Ground.phase }, { on := 4, ground := Ground.phase }, { on := 5, ground := Ground.phase }, { on := 6, ground := Ground.phase }, { on := 7, ground := Ground.phase }, { on := 8, ground := Ground.phase }, { on := 9, ground := Ground.phase }, { on := 10, ground := Ground.phase }, { on := 11, ground := Ground.phase }, { on := 12, ground := Ground.phase }, { on := 13, ground := Ground.phase }, { on := 14, ground := Ground.phase }, { on := 15, ground := Ground.phase }, { on := 16, ground := Ground.phase }, { on := 17, ground := Ground.phase }, { on := 18, ground := Ground.phase }, { on := 19, ground := Ground.phase }, { on := 20, ground := Ground.phase }, { on := 21, ground := Ground.phase }, { on := 22, ground := Ground.phase }, { on := 23, ground := Ground.phase }, { on := 24, ground := Ground.phase }, { on := 25, ground := Ground.phase }, { on := 26, ground := Ground.phase }, { on := 27, ground := Ground.phase }, { on := 28, ground := Ground.phase }, { on := 29, ground := Ground.phase }, { on := 30, ground := Ground.phase }, { on := 31, ground := Ground.phase }, { on := 32, ground := Ground.phase }, { on := 33, ground := Ground.phase }, { on := 34, ground := Ground.phase }, { on := 35, ground := Ground.phase }, { on := 36, ground := Ground.phase }, { on := 37, ground := Ground.phase }], guard := none }) (v := ?vn167k38) rfl (by kernel_rfl) (by kernel_rfl) (by kernel_rfl) (fun _ _ _ h => h) (Or.inl ⟨by kernel_rfl, ?yn167k38⟩) (by assumption) ?rn167k38
  case yn167k38 => intro w hSw; (try dsimp only at hSw); go_simp; try with_reducible rfl
  try simp only [Act.put, List.setIfInBounds_toArray, List.set_cons_zero, List.set_cons_succ]
  refine wpAnyH_done (by kernel_rfl) ?_ _
  go_wp2_with fail
  go_ret
  exact ⟨rfl, BA.out⟩
/-- what Same answers of two valid families -/
def sameN (L H L' H' : Nat) (mn mx mn' mx' : Int) : Bool := ((L : Int) == (L' : Int)) && ((H : Int) == (H' : Int)) && (mn == mn') && (mx == mx')
theorem Same_any (lo hi lo' hi' : List Int) (mn mx mn' mx' : Int) (A B A' B' : Option Addr) (c1 c2 c1' c2' : Nat) (w : World) (ha : Ints w A lo) (hb : Ints w B hi) (ha' : Ints w A' lo') (hb' : Ints w B' hi') (hV : validFB lo hi mn mx = true) (hV' : validFB lo' hi' mn' mx' = true) :
    Calls Tryz.prog 10 #[.agg #[.slice A lo.length c1, .slice B hi.length c2, .int .i64 mn, .int .i64 mx], .agg #[.slice A' lo'.length c1', .slice B' hi'.length c2', .int .i64 mn', .int .i64 mx']] w fun e w' => e = .returned (.bool (sameN (setN lo) (setN hi) (setN lo') (setN hi') mn mx mn' mx')) ∧ Below w.heap.size w w' := by
  unfold sameN
  cases h1 : ((setN lo : Int) == (setN lo' : Int)) with
  | false => exact Same_c0 lo hi lo' hi' mn mx mn' mx' A B A' B' c1 c2 c1' c2' w ha hb ha' hb' hV hV' h1
  | true =>
    cases h2 : ((setN hi : Int) == (setN hi' : Int)) with
    | false => exact Same_c1 lo hi lo' hi' mn mx mn' mx' A B A' B' c1 c2 c1' c2' w ha hb ha' hb' hV hV' h1 h2
    | true =>
      cases h3 : (mn == mn') with
      | false => exact Same_c2 lo hi lo' hi' mn mx mn' mx' A B A' B' c1 c2 c1' c2' w ha hb ha' hb' hV hV' h1 h2 h3
      | true =>
        cases h4 : (mx == mx') with
        | false => exact Same_c3 lo hi lo' hi' mn mx mn' mx' A B A' B' c1 c2 c1' c2' w ha hb ha' hb' hV hV' h1 h2 h3 h4
        | true => exact Same_c4 lo hi lo' hi' mn mx mn' mx' A B A' B' c1 c2 c1' c2' w ha hb ha' hb' hV hV' h1 h2 h3 h4
end Go.Proofs.YtcbjkclajkjicaaGreatDoor
