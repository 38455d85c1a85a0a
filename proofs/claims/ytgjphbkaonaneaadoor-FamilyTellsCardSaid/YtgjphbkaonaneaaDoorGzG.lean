/-
  Fixed: the document's.
-/
import Derived.Test.YtgjphbkaonaneaaDoorFzF
import Derived.Deep.OwnRows
import Derived.Laws.BitsLemmas
import Derived.Deep.RegionHeld
import Derived.Test.YtgjphbkaonaneaaDoorGzE
namespace Go.Proofs.YtgjphbkaonaneaaDoor
set_option linter.unusedSimpArgs false
open Go Go.RowKit Go.Shelf Go.Ev

set_option maxRecDepth 100000 in
set_option maxHeartbeats 8000000 in
theorem Fixed_r_any (lo hi : List Int) (mn mx : Int) (A B : Option Addr) (c1 c2 : Nat) (w : World) (ha : Ints w A lo) (hb : Ints w B hi) :
    Calls Tryd.prog 36 #[.agg #[.slice A lo.length c1, .slice B hi.length c2, .int .i64 mn, .int .i64 mx]] w fun e w' => e = .returned (.bool (validFB lo hi mn mx && decide (lo = hi))) ∧ Below w.heap.size w w' := by
  have VP := Lib.hid (fun w1 (h : Below w.heap.size w w1) => FValid_r_any lo hi mn mx A B c1 c2 w1 (ha.over h) (hb.over h))
  have VL := Lib.hid (show validFB lo hi mn mx = true → elemsB lo = true ∧ elemsB hi = true from fun h => by
    unfold validFB at h
    simp only [Bool.and_eq_true] at h
    exact ⟨h.1.1.1, h.1.1.2⟩)
  have S1 := Lib.hid (fun (h1 : lo.all inR = true) w1 (h : Below w.heap.size w w1) => rof_any lo A c1 w1 (ha.over h) h1)
  have S2 := Lib.hid (fun (h1 : hi.all inR = true) w1 (h : Below w.heap.size w w1) => rof_any hi B c2 w1 (hb.over h) h1)
  have hl1 := ha.1
  have hl2 := hb.1
  clear ha hb
  generalize lo.length = n1 at *
  generalize hi.length = n2 at *
  have BA := Lib.hid (show Below w.heap.size w (w.alloc (.cells #[.slice A n1 c1, .slice B n2 c2, .int .i64 mn, .int .i64 mx] 37)) from (Below.refl _ w).alloc (Nat.le_refl _) _)
  have BX := Lib.hid (show ∀ wx : World, Below (w.heap.size + 1) (w.alloc (.cells #[.slice A n1 c1, .slice B n2 c2, .int .i64 mn, .int .i64 mx] 37)) wx → wx.cell? ⟨w.heap.size, 0, none⟩ = some (.slice A n1 c1) ∧ wx.cell? ⟨w.heap.size, 1, none⟩ = some (.slice B n2 c2) ∧ wx.cell? ⟨w.heap.size, 2, none⟩ = some (.int .i64 mn) ∧ wx.cell? ⟨w.heap.size, 3, none⟩ = some (.int .i64 mx) from fun wx h => by
    have hh := (h.block w.heap.size (by omega)).trans (heap_alloc_new w (.cells #[.slice A n1 c1, .slice B n2 c2, .int .i64 mn, .int .i64 mx] 37))
    refine ⟨?_, ?_, ?_, ?_⟩ <;> (simp only [World.cell?, hh]; rfl))
  have hz : w.heap.size + 1 ≤ (w.alloc (.cells #[.slice A n1 c1, .slice B n2 c2, .int .i64 mn, .int .i64 mx] 37)).heap.size := by simp
  cases hV : validFB lo hi mn mx with
  | false =>
    rw [hV] at VP
    simp only [Bool.false_and]
    clear S1 S2 VL hV
    go_enter Tryd.func36, Tryd.ntmps36
    go_wp2_with fail
    generalize (w.alloc (.cells #[.slice A n1 c1, .slice B n2 c2, .int .i64 mn, .int .i64 mx] 37)) = W at *
    have S0 : (fun wx : World => wx.cell? ⟨w.heap.size, 0, none⟩ = some (.slice A n1 c1) ∧ wx.cell? ⟨w.heap.size, 1, none⟩ = some (.slice B n2 c2) ∧ wx.cell? ⟨w.heap.size, 2, none⟩ = some (.int .i64 mn) ∧ wx.cell? ⟨w.heap.size, 3, none⟩ = some (.int .i64 mx)) W.drew := BX.out _ (Below.refl _ W).drew
    have BV := Lib.hid (show Below (w.heap.size + 1) W W.drew from (Below.refl _ W).drew)
    replace BA := Lib.hid (show Below w.heap.size w W.drew from BA.out.drew)
    have hvs : w.heap.size + 1 ≤ W.drew.heap.size := hz
    refine wp_region_held_drew (S := fun (wx : World) => wx.cell? ⟨w.heap.size, 0, none⟩ = some (.slice A n1 c1) ∧ wx.cell? ⟨w.heap.size, 1, none⟩ = some (.slice B n2 c2) ∧ wx.cell? ⟨w.heap.size, 2, none⟩ = some (.int .i64 mn) ∧ wx.cell? ⟨w.heap.size, 3, none⟩ = some (.int .i64 mx)) (by kernel_rfl) S0 (fun hHeld => ?_)
    clear S0
    generalize W.drew = V at *
    refine wpAnyH_take (i := 0) (oi := { dst := some 3, op := Op.load 37 (Operand.tmp 1), type := 37, pos := "ref.go:157", after := #[], guard := none }) (v := ?vn1k0) rfl (by kernel_rfl) (by kernel_rfl) (by kernel_rfl) (fun _ _ _ h => h) (Or.inl ⟨by kernel_rfl, ?yn1k0⟩) (by assumption) ?rn1k0
    case yn1k0 => intro w hSw; (try dsimp only at hSw); go_simp; try with_reducible rfl
    try simp only [Act.put, List.setIfInBounds_toArray, List.set_cons_zero, List.set_cons_succ]
    refine wpAnyH_ready (rs := [1]) (by kernel_rfl) (by simp) (AllReadyH.cons (o := { dst := some 4, op := Op.call { callee := Callee.value (Operand.func 34), args := #[Operand.tmp 3], argTypes := #[37] }, type := 4, pos := "ref.go:157", after := #[{ on := 0, ground := Ground.data }], guard := none }) rfl (fun K hK => ?_) AllReadyH.nil)
    go_simp
    refine (VP.out _ BA.out).mono ?_
    rintro e y1 ⟨rfl, hb⟩
    replace BV := Lib.hid (BV.out.trans (hb.mono hvs))
    replace BA := Lib.hid (BA.out.trans (hb.mono BA.out.size))
    clear hb hHeld
    refine hK.out _ _ (BX.out _ BV.out) (fun hHeld => ?_)
    clear hK K
    try simp only [Act.put, List.setIfInBounds_toArray, List.set_cons_zero, List.set_cons_succ]
    refine wpAnyH_take (i := 2) (oi := { dst := some 5, op := Op.move (Operand.tmp 4), type := 4, pos := "ref.go:157", after := #[{ on := 1, ground := Ground.data }, { on := 1, ground := Ground.chain }], guard := none }) (v := ?vn2k2) rfl (by kernel_rfl) (by kernel_rfl) (by kernel_rfl) (fun _ _ _ h => h) (Or.inl ⟨by kernel_rfl, ?yn2k2⟩) (by assumption) ?rn2k2
    case yn2k2 => intro w hSw; (try dsimp only at hSw); go_simp; try with_reducible rfl
    try simp only [Act.put, List.setIfInBounds_toArray, List.set_cons_zero, List.set_cons_succ]
    refine wpAnyH_take (i := 3) (oi := { dst := some 6, op := Op.fieldAddr 37 (Operand.tmp 1) 0, type := 0, pos := "ref.go:157", after := #[{ on := 2, ground := Ground.guard }], guard := some (2, true) }) (v := undef) rfl (by kernel_rfl) (by kernel_rfl) (by kernel_rfl) (fun _ _ _ h => h) (Or.inr ⟨by kernel_rfl, rfl⟩) (by assumption) ?rn3k3
    try simp only [Act.put, List.setIfInBounds_toArray, List.set_cons_zero, List.set_cons_succ]
    refine wpAnyH_take (i := 4) (oi := { dst := some 7, op := Op.load 23 (Operand.tmp 6), type := 23, pos := "ref.go:157", after := #[{ on := 3, ground := Ground.data }, { on := 2, ground := Ground.guard }], guard := some (2, true) }) (v := undef) rfl (by kernel_rfl) (by kernel_rfl) (by kernel_rfl) (fun _ _ _ h => h) (Or.inr ⟨by kernel_rfl, rfl⟩) (by assumption) ?rn4k4
    try simp only [Act.put, List.setIfInBounds_toArray, List.set_cons_zero, List.set_cons_succ]
    refine wpAnyH_take (i := 5) (oi := { dst := some 8, op := Op.call { callee := Callee.value (Operand.func 64), args := #[Operand.tmp 7], argTypes := #[23] }, type := 86, pos := "ref.go:157", after := #[{ on := 4, ground := Ground.data }, { on := 2, ground := Ground.chain }, { on := 2, ground := Ground.guard }], guard := some (2, true) }) (v := undef) rfl (by kernel_rfl) (by kernel_rfl) (by kernel_rfl) (fun _ _ _ h => h) (Or.inr ⟨by kernel_rfl, rfl⟩) (by assumption) ?rn5k5
    try simp only [Act.put, List.setIfInBounds_toArray, List.set_cons_zero, List.set_cons_succ]
    refine wpAnyH_take (i := 6) (oi := { dst := some 9, op := Op.fieldAddr 37 (Operand.tmp 1) 1, type := 0, pos := "ref.go:157", after := #[{ on := 2, ground := Ground.guard }], guard := some (2, true) }) (v := undef) rfl (by kernel_rfl) (by kernel_rfl) (by kernel_rfl) (fun _ _ _ h => h) (Or.inr ⟨by kernel_rfl, rfl⟩) (by assumption) ?rn6k6
    try simp only [Act.put, List.setIfInBounds_toArray, List.set_cons_zero, List.set_cons_succ]
    refine wpAnyH_take (i := 7) (oi := { dst := some 10, op := Op.load 23 (Operand.tmp 9), type := 23, pos := "ref.go:157", after := #[{ on := 6, ground := Ground.data }, { on := 2, ground := Ground.guard }], guard := some (2, true) }) (v := undef) rfl (by kernel_rfl) (by kernel_rfl) (by kernel_rfl) (fun _ _ _ h => h) (Or.inr ⟨by kernel_rfl, rfl⟩) (by assumption) ?rn7k7
    try simp only [Act.put, List.setIfInBounds_toArray, List.set_cons_zero, List.set_cons_succ]
    refine wpAnyH_take (i := 8) (oi := { dst := some 11, op := Op.call { callee := Callee.value (Operand.func 64), args := #[Operand.tmp 10], argTypes := #[23] }, type := 86, pos := "ref.go:157", after := #[{ on := 7, ground := Ground.data }, { on := 5, ground := Ground.chain }, { on := 2, ground := Ground.guard }], guard := some (2, true) }) (v := undef) rfl (by kernel_rfl) (by kernel_rfl) (by kernel_rfl) (fun _ _ _ h => h) (Or.inr ⟨by kernel_rfl, rfl⟩) (by assumption) ?rn8k8
    try simp only [Act.put, List.setIfInBounds_toArray, List.set_cons_zero, List.set_cons_succ]
    refine wpAnyH_take (i := 9) (oi := { dst := some 12, op := Op.binOp BinOp.eql 86 (Operand.tmp 8) (Operand.tmp 11) 86, type := 4, pos := "ref.go:157", after := #[{ on := 5, ground := Ground.data }, { on := 8, ground := Ground.data }, { on := 2, ground := Ground.guard }], guard := some (2, true) }) (v := undef) rfl (by kernel_rfl) (by kernel_rfl) (by kernel_rfl) (fun _ _ _ h => h) (Or.inr ⟨by kernel_rfl, rfl⟩) (by assumption) ?rn9k9
    try simp only [Act.put, List.setIfInBounds_toArray, List.set_cons_zero, List.set_cons_succ]
    refine wpAnyH_take (i := 10) (oi := { dst := some 13, op := Op.pick (Operand.tmp 5) (Operand.tmp 12) (Operand.const (Value.bool false)), type := 4, pos := "ref.go:157", after := #[{ on := 2, ground := Ground.data }, { on := 9, ground := Ground.data }], guard := none }) (v := ?vn10k10) rfl (by kernel_rfl) (by kernel_rfl) (by kernel_rfl) (fun _ _ _ h => h) (Or.inl ⟨by kernel_rfl, ?yn10k10⟩) (by assumption) ?rn10k10
    case yn10k10 => intro w hSw; (try dsimp only at hSw); go_simp; try with_reducible rfl
    try simp only [Act.put, List.setIfInBounds_toArray, List.set_cons_zero, List.set_cons_succ]
    refine wpAnyH_take (i := 11) (oi := { dst := some 2, op := Op.assign (Operand.tmp 13), type := 4, pos := "ref.go:157", after := #[{ on := 10, ground := Ground.data }, { on := 8, ground := Ground.chain }, { on := 0, ground := Ground.phase }, { on := 1, ground := Ground.phase }, { on := 2, ground := Ground.phase }, { on := 3, ground := Ground.phase }, { on := 4, ground := Ground.phase }, { on := 5, ground := Ground.phase }, { on := 6, ground := Ground.phase }, { on := 7, ground := Ground.phase }, { on := 8, ground := Ground.phase }, { on := 9, ground := Ground.phase }, { on := 10, ground := Ground.phase }], guard := none }) (v := ?vn11k11) rfl (by kernel_rfl) (by kernel_rfl) (by kernel_rfl) (fun _ _ _ h => h) (Or.inl ⟨by kernel_rfl, ?yn11k11⟩) (by assumption) ?rn11k11
    case yn11k11 => intro w hSw; (try dsimp only at hSw); go_simp; try with_reducible rfl
    try simp only [Act.put, List.setIfInBounds_toArray, List.set_cons_zero, List.set_cons_succ]
    refine wpAnyH_done (by kernel_rfl) ?_ _
    go_wp2_with fail
    go_ret
    exact ⟨rfl, BA.out⟩
  | true =>
    obtain ⟨hr1, hr2⟩ := VL.out hV
    rw [hV] at VP
    simp only [Bool.true_and]
    have S1 := Lib.hid (S1.out (elems_all hr1))
    have S2 := Lib.hid (S2.out (elems_all hr2))
    have EQ := Lib.hid (show (((setN lo : Nat) : Int) == ((setN hi : Nat) : Int)) = decide (lo = hi) from by rw [Bool.eq_iff_iff, beq_iff_eq, decide_eq_true_eq, ← setN_inj hr1 hr2]; omega)
    clear VL hV hr1 hr2
    go_enter Tryd.func36, Tryd.ntmps36
    go_wp2_with fail
    generalize (w.alloc (.cells #[.slice A n1 c1, .slice B n2 c2, .int .i64 mn, .int .i64 mx] 37)) = W at *
    have S0 : (fun wx : World => wx.cell? ⟨w.heap.size, 0, none⟩ = some (.slice A n1 c1) ∧ wx.cell? ⟨w.heap.size, 1, none⟩ = some (.slice B n2 c2) ∧ wx.cell? ⟨w.heap.size, 2, none⟩ = some (.int .i64 mn) ∧ wx.cell? ⟨w.heap.size, 3, none⟩ = some (.int .i64 mx)) W.drew := BX.out _ (Below.refl _ W).drew
    have BV := Lib.hid (show Below (w.heap.size + 1) W W.drew from (Below.refl _ W).drew)
    replace BA := Lib.hid (show Below w.heap.size w W.drew from BA.out.drew)
    have hvs : w.heap.size + 1 ≤ W.drew.heap.size := hz
    refine wp_region_held_drew (S := fun (wx : World) => wx.cell? ⟨w.heap.size, 0, none⟩ = some (.slice A n1 c1) ∧ wx.cell? ⟨w.heap.size, 1, none⟩ = some (.slice B n2 c2) ∧ wx.cell? ⟨w.heap.size, 2, none⟩ = some (.int .i64 mn) ∧ wx.cell? ⟨w.heap.size, 3, none⟩ = some (.int .i64 mx)) (by kernel_rfl) S0 (fun hHeld => ?_)
    clear S0
    generalize W.drew = V at *
    refine wpAnyH_take (i := 0) (oi := { dst := some 3, op := Op.load 37 (Operand.tmp 1), type := 37, pos := "ref.go:157", after := #[], guard := none }) (v := ?vn12k0) rfl (by kernel_rfl) (by kernel_rfl) (by kernel_rfl) (fun _ _ _ h => h) (Or.inl ⟨by kernel_rfl, ?yn12k0⟩) (by assumption) ?rn12k0
    case yn12k0 => intro w hSw; (try dsimp only at hSw); go_simp; try with_reducible rfl
    try simp only [Act.put, List.setIfInBounds_toArray, List.set_cons_zero, List.set_cons_succ]
    refine wpAnyH_ready (rs := [1]) (by kernel_rfl) (by simp) (AllReadyH.cons (o := { dst := some 4, op := Op.call { callee := Callee.value (Operand.func 34), args := #[Operand.tmp 3], argTypes := #[37] }, type := 4, pos := "ref.go:157", after := #[{ on := 0, ground := Ground.data }], guard := none }) rfl (fun K hK => ?_) AllReadyH.nil)
    go_simp
    refine (VP.out _ BA.out).mono ?_
    rintro e y1 ⟨rfl, hb⟩
    replace BV := Lib.hid (BV.out.trans (hb.mono hvs))
    replace BA := Lib.hid (BA.out.trans (hb.mono BA.out.size))
    clear hb hHeld
    refine hK.out _ _ (BX.out _ BV.out) (fun hHeld => ?_)
    clear hK K
    try simp only [Act.put, List.setIfInBounds_toArray, List.set_cons_zero, List.set_cons_succ]
    refine wpAnyH_take (i := 2) (oi := { dst := some 5, op := Op.move (Operand.tmp 4), type := 4, pos := "ref.go:157", after := #[{ on := 1, ground := Ground.data }, { on := 1, ground := Ground.chain }], guard := none }) (v := ?vn13k2) rfl (by kernel_rfl) (by kernel_rfl) (by kernel_rfl) (fun _ _ _ h => h) (Or.inl ⟨by kernel_rfl, ?yn13k2⟩) (by assumption) ?rn13k2
    case yn13k2 => intro w hSw; (try dsimp only at hSw); go_simp; try with_reducible rfl
    try simp only [Act.put, List.setIfInBounds_toArray, List.set_cons_zero, List.set_cons_succ]
    refine wpAnyH_take (i := 3) (oi := { dst := some 6, op := Op.fieldAddr 37 (Operand.tmp 1) 0, type := 0, pos := "ref.go:157", after := #[{ on := 2, ground := Ground.guard }], guard := some (2, true) }) (v := ?vn14k3) rfl (by kernel_rfl) (by kernel_rfl) (by kernel_rfl) (fun _ _ _ h => h) (Or.inl ⟨by kernel_rfl, ?yn14k3⟩) (by assumption) ?rn14k3
    case yn14k3 => intro w hSw; (try dsimp only at hSw); go_simp; try with_reducible rfl
    try simp only [Act.put, List.setIfInBounds_toArray, List.set_cons_zero, List.set_cons_succ]
    refine wpAnyH_take (i := 4) (oi := { dst := some 7, op := Op.load 23 (Operand.tmp 6), type := 23, pos := "ref.go:157", after := #[{ on := 3, ground := Ground.data }, { on := 2, ground := Ground.guard }], guard := some (2, true) }) (v := ?vn15k4) rfl (by kernel_rfl) (by kernel_rfl) (by kernel_rfl) (fun _ _ _ h => h) (Or.inl ⟨by kernel_rfl, ?yn15k4⟩) (by assumption) ?rn15k4
    case yn15k4 => intro w hSw; (try dsimp only at hSw); go_simp; try with_reducible rfl
    try simp only [Act.put, List.setIfInBounds_toArray, List.set_cons_zero, List.set_cons_succ]
    refine wpAnyH_take (i := 6) (oi := { dst := some 9, op := Op.fieldAddr 37 (Operand.tmp 1) 1, type := 0, pos := "ref.go:157", after := #[{ on := 2, ground := Ground.guard }], guard := some (2, true) }) (v := ?vn16k6) rfl (by kernel_rfl) (by kernel_rfl) (by kernel_rfl) (fun _ _ _ h => h) (Or.inl ⟨by kernel_rfl, ?yn16k6⟩) (by assumption) ?rn16k6
    case yn16k6 => intro w hSw; (try dsimp only at hSw); go_simp; try with_reducible rfl
    try simp only [Act.put, List.setIfInBounds_toArray, List.set_cons_zero, List.set_cons_succ]
    refine wpAnyH_take (i := 7) (oi := { dst := some 10, op := Op.load 23 (Operand.tmp 9), type := 23, pos := "ref.go:157", after := #[{ on := 6, ground := Ground.data }, { on := 2, ground := Ground.guard }], guard := some (2, true) }) (v := ?vn17k7) rfl (by kernel_rfl) (by kernel_rfl) (by kernel_rfl) (fun _ _ _ h => h) (Or.inl ⟨by kernel_rfl, ?yn17k7⟩) (by assumption) ?rn17k7
    case yn17k7 => intro w hSw; (try dsimp only at hSw); go_simp; try with_reducible rfl
    try simp only [Act.put, List.setIfInBounds_toArray, List.set_cons_zero, List.set_cons_succ]
    refine wpAnyH_ready (rs := [5]) (by kernel_rfl) (by simp) (AllReadyH.cons (o := { dst := some 8, op := Op.call { callee := Callee.value (Operand.func 64), args := #[Operand.tmp 7], argTypes := #[23] }, type := 86, pos := "ref.go:157", after := #[{ on := 4, ground := Ground.data }, { on := 2, ground := Ground.chain }, { on := 2, ground := Ground.guard }], guard := some (2, true) }) rfl (fun K hK => ?_) AllReadyH.nil)
    go_simp
    refine (S1.out _ BA.out).mono ?_
    rintro e z5 ⟨rfl, rfl⟩
    clear hHeld
    refine hK.out _ _ (BX.out _ BV.out) (fun hHeld => ?_)
    clear hK K
    try simp only [Act.put, List.setIfInBounds_toArray, List.set_cons_zero, List.set_cons_succ]
    refine wpAnyH_ready (rs := [8]) (by kernel_rfl) (by simp) (AllReadyH.cons (o := { dst := some 11, op := Op.call { callee := Callee.value (Operand.func 64), args := #[Operand.tmp 10], argTypes := #[23] }, type := 86, pos := "ref.go:157", after := #[{ on := 7, ground := Ground.data }, { on := 5, ground := Ground.chain }, { on := 2, ground := Ground.guard }], guard := some (2, true) }) rfl (fun K hK => ?_) AllReadyH.nil)
    go_simp
    refine (S2.out _ BA.out).mono ?_
    rintro e z8 ⟨rfl, rfl⟩
    clear hHeld
    refine hK.out _ _ (BX.out _ BV.out) (fun hHeld => ?_)
    clear hK K
    try simp only [Act.put, List.setIfInBounds_toArray, List.set_cons_zero, List.set_cons_succ]
    refine wpAnyH_take (i := 9) (oi := { dst := some 12, op := Op.binOp BinOp.eql 86 (Operand.tmp 8) (Operand.tmp 11) 86, type := 4, pos := "ref.go:157", after := #[{ on := 5, ground := Ground.data }, { on := 8, ground := Ground.data }, { on := 2, ground := Ground.guard }], guard := some (2, true) }) (v := ?vn18k9) rfl (by kernel_rfl) (by kernel_rfl) (by kernel_rfl) (fun _ _ _ h => h) (Or.inl ⟨by kernel_rfl, ?yn18k9⟩) (by assumption) ?rn18k9
    case yn18k9 => intro w hSw; (try dsimp only at hSw); go_simp; try with_reducible rfl
    try simp only [Act.put, List.setIfInBounds_toArray, List.set_cons_zero, List.set_cons_succ]
    refine wpAnyH_take (i := 10) (oi := { dst := some 13, op := Op.pick (Operand.tmp 5) (Operand.tmp 12) (Operand.const (Value.bool false)), type := 4, pos := "ref.go:157", after := #[{ on := 2, ground := Ground.data }, { on := 9, ground := Ground.data }], guard := none }) (v := ?vn19k10) rfl (by kernel_rfl) (by kernel_rfl) (by kernel_rfl) (fun _ _ _ h => h) (Or.inl ⟨by kernel_rfl, ?yn19k10⟩) (by assumption) ?rn19k10
    case yn19k10 => intro w hSw; (try dsimp only at hSw); go_simp; try with_reducible rfl
    try simp only [Act.put, List.setIfInBounds_toArray, List.set_cons_zero, List.set_cons_succ]
    refine wpAnyH_take (i := 11) (oi := { dst := some 2, op := Op.assign (Operand.tmp 13), type := 4, pos := "ref.go:157", after := #[{ on := 10, ground := Ground.data }, { on := 8, ground := Ground.chain }, { on := 0, ground := Ground.phase }, { on := 1, ground := Ground.phase }, { on := 2, ground := Ground.phase }, { on := 3, ground := Ground.phase }, { on := 4, ground := Ground.phase }, { on := 5, ground := Ground.phase }, { on := 6, ground := Ground.phase }, { on := 7, ground := Ground.phase }, { on := 8, ground := Ground.phase }, { on := 9, ground := Ground.phase }, { on := 10, ground := Ground.phase }], guard := none }) (v := ?vn20k11) rfl (by kernel_rfl) (by kernel_rfl) (by kernel_rfl) (fun _ _ _ h => h) (Or.inl ⟨by kernel_rfl, ?yn20k11⟩) (by assumption) ?rn20k11
    case yn20k11 => intro w hSw; (try dsimp only at hSw); go_simp; try with_reducible rfl
    try simp only [Act.put, List.setIfInBounds_toArray, List.set_cons_zero, List.set_cons_succ]
    refine wpAnyH_done (by kernel_rfl) ?_ _
    go_wp2_with fail
    go_ret
    exact ⟨by rw [← EQ.out]; rfl, BA.out⟩
end Go.Proofs.YtgjphbkaonaneaaDoor

/-
  Same: of two families that are the same.
-/
namespace Go.Proofs.YtgjphbkaonaneaaDoor
set_option linter.unusedSimpArgs false
open Go Go.RowKit Go.Shelf Go.Ev

set_option maxRecDepth 100000 in
set_option maxHeartbeats 8000000 in
theorem Same_true (lo hi : List Int) (mn mx : Int) (A B A' B' : Option Addr) (c1 c2 c1' c2' : Nat) (w : World) (ha : Ints w A lo) (hb : Ints w B hi) (ha' : Ints w A' lo) (hb' : Ints w B' hi) (hV : validFB lo hi mn mx = true) :
    Calls Tryd.prog 29 #[.agg #[.slice A lo.length c1, .slice B hi.length c2, .int .i64 mn, .int .i64 mx], .agg #[.slice A' lo.length c1', .slice B' hi.length c2', .int .i64 mn, .int .i64 mx]] w fun e w' => e = .returned (.bool true) ∧ Below w.heap.size w w' := by
  have VP := Lib.hid (fun w1 (h : Below w.heap.size w w1) => FValid_r_any lo hi mn mx A B c1 c2 w1 (ha.over h) (hb.over h))
  have VQ := Lib.hid (fun w1 (h : Below w.heap.size w w1) => FValid_r_any lo hi mn mx A' B' c1' c2' w1 (ha'.over h) (hb'.over h))
  rw [hV] at VP VQ
  obtain ⟨hr1, hr2⟩ : lo.all inR = true ∧ hi.all inR = true := by
    unfold validFB elemsB at hV
    simp only [Bool.and_eq_true] at hV
    exact ⟨hV.1.1.1.2, hV.1.1.2.2⟩
  have S1 := Lib.hid (fun w1 (h : Below w.heap.size w w1) => rof_any lo A c1 w1 (ha.over h) hr1)
  have S2 := Lib.hid (fun w1 (h : Below w.heap.size w w1) => rof_any hi B c2 w1 (hb.over h) hr2)
  have T1 := Lib.hid (fun w1 (h : Below w.heap.size w w1) => rof_any lo A' c1' w1 (ha'.over h) hr1)
  have T2 := Lib.hid (fun w1 (h : Below w.heap.size w w1) => rof_any hi B' c2' w1 (hb'.over h) hr2)
  have hl1 := ha.1
  have hl2 := hb.1
  clear ha hb ha' hb' hV hr1 hr2
  generalize lo.length = n1 at *
  generalize hi.length = n2 at *
  generalize setN lo = L at *
  generalize setN hi = H at *
  have BA := Lib.hid (show Below w.heap.size w ((w.alloc (.cells #[.slice A n1 c1, .slice B n2 c2, .int .i64 mn, .int .i64 mx] 37)).alloc (.cells #[.slice A' n1 c1', .slice B' n2 c2', .int .i64 mn, .int .i64 mx] 37)) from ((Below.refl _ w).alloc (Nat.le_refl _) _).alloc (by simp) _)
  have BX := Lib.hid (show ∀ wx : World, Below (w.heap.size + 2) ((w.alloc (.cells #[.slice A n1 c1, .slice B n2 c2, .int .i64 mn, .int .i64 mx] 37)).alloc (.cells #[.slice A' n1 c1', .slice B' n2 c2', .int .i64 mn, .int .i64 mx] 37)) wx → wx.cell? ⟨w.heap.size, 0, none⟩ = some (.slice A n1 c1) ∧ wx.cell? ⟨w.heap.size, 1, none⟩ = some (.slice B n2 c2) ∧ wx.cell? ⟨w.heap.size, 2, none⟩ = some (.int .i64 mn) ∧ wx.cell? ⟨w.heap.size, 3, none⟩ = some (.int .i64 mx) ∧ wx.cell? ⟨w.heap.size + 1, 0, none⟩ = some (.slice A' n1 c1') ∧ wx.cell? ⟨w.heap.size + 1, 1, none⟩ = some (.slice B' n2 c2') ∧ wx.cell? ⟨w.heap.size + 1, 2, none⟩ = some (.int .i64 mn) ∧ wx.cell? ⟨w.heap.size + 1, 3, none⟩ = some (.int .i64 mx) from fun wx h => by
    have hh := (h.block w.heap.size (by omega)).trans (heap_alloc2_old w (.cells #[.slice A n1 c1, .slice B n2 c2, .int .i64 mn, .int .i64 mx] 37) _)
    have hk := (h.block (w.heap.size + 1) (by omega)).trans (heap_alloc2_new w _ (.cells #[.slice A' n1 c1', .slice B' n2 c2', .int .i64 mn, .int .i64 mx] 37))
    refine ⟨?_, ?_, ?_, ?_, ?_, ?_, ?_, ?_⟩ <;> (simp only [World.cell?, hh, hk]; rfl))
  have hz : w.heap.size + 2 ≤ ((w.alloc (.cells #[.slice A n1 c1, .slice B n2 c2, .int .i64 mn, .int .i64 mx] 37)).alloc (.cells #[.slice A' n1 c1', .slice B' n2 c2', .int .i64 mn, .int .i64 mx] 37)).heap.size := by simp
  go_enter Tryd.func29, Tryd.ntmps29
  go_wp2_with fail
  generalize ((w.alloc (.cells #[.slice A n1 c1, .slice B n2 c2, .int .i64 mn, .int .i64 mx] 37)).alloc (.cells #[.slice A' n1 c1', .slice B' n2 c2', .int .i64 mn, .int .i64 mx] 37)) = W at *
  have S0 : (fun wx : World => wx.cell? ⟨w.heap.size, 0, none⟩ = some (.slice A n1 c1) ∧ wx.cell? ⟨w.heap.size, 1, none⟩ = some (.slice B n2 c2) ∧ wx.cell? ⟨w.heap.size, 2, none⟩ = some (.int .i64 mn) ∧ wx.cell? ⟨w.heap.size, 3, none⟩ = some (.int .i64 mx) ∧ wx.cell? ⟨w.heap.size + 1, 0, none⟩ = some (.slice A' n1 c1') ∧ wx.cell? ⟨w.heap.size + 1, 1, none⟩ = some (.slice B' n2 c2') ∧ wx.cell? ⟨w.heap.size + 1, 2, none⟩ = some (.int .i64 mn) ∧ wx.cell? ⟨w.heap.size + 1, 3, none⟩ = some (.int .i64 mx)) W.drew := BX.out _ (Below.refl _ W).drew
  have BV := Lib.hid (show Below (w.heap.size + 2) W W.drew from (Below.refl _ W).drew)
  replace BA := Lib.hid (show Below w.heap.size w W.drew from BA.out.drew)
  have hvs : w.heap.size + 2 ≤ W.drew.heap.size := hz
  refine wp_region_held_drew (S := fun (wx : World) => wx.cell? ⟨w.heap.size, 0, none⟩ = some (.slice A n1 c1) ∧ wx.cell? ⟨w.heap.size, 1, none⟩ = some (.slice B n2 c2) ∧ wx.cell? ⟨w.heap.size, 2, none⟩ = some (.int .i64 mn) ∧ wx.cell? ⟨w.heap.size, 3, none⟩ = some (.int .i64 mx) ∧ wx.cell? ⟨w.heap.size + 1, 0, none⟩ = some (.slice A' n1 c1') ∧ wx.cell? ⟨w.heap.size + 1, 1, none⟩ = some (.slice B' n2 c2') ∧ wx.cell? ⟨w.heap.size + 1, 2, none⟩ = some (.int .i64 mn) ∧ wx.cell? ⟨w.heap.size + 1, 3, none⟩ = some (.int .i64 mx)) (by kernel_rfl) S0 (fun hHeld => ?_)
  clear S0 hz
  generalize W.drew = V at *
  refine wpAnyH_take (i := 0) (oi := { dst := some 5, op := Op.load 37 (Operand.tmp 2), type := 37, pos := "ref.go:358", after := #[], guard := none }) (v := ?vn1k0) rfl (by kernel_rfl) (by kernel_rfl) (by kernel_rfl) (fun _ _ _ h => h) (Or.inl ⟨by kernel_rfl, ?yn1k0⟩) (by assumption) ?rn1k0
  case yn1k0 => intro w hSw; (try dsimp only at hSw); go_simp; try with_reducible rfl
  try simp only [Act.put, List.setIfInBounds_toArray, List.set_cons_zero, List.set_cons_succ]
  refine wpAnyH_ready (rs := [1]) (by kernel_rfl) (by simp) (AllReadyH.cons (o := { dst := some 6, op := Op.call { callee := Callee.value (Operand.func 34), args := #[Operand.tmp 5], argTypes := #[37] }, type := 4, pos := "ref.go:358", after := #[{ on := 0, ground := Ground.data }], guard := none }) rfl (fun K hK => ?_) AllReadyH.nil)
  go_simp
  refine (VP.out _ BA.out).mono ?_
  rintro e y0 ⟨rfl, hb⟩
  replace BV := Lib.hid (BV.out.trans (hb.mono hvs))
  replace BA := Lib.hid (BA.out.trans (hb.mono BA.out.size))
  replace hvs : w.heap.size + 2 ≤ y0.heap.size := Nat.le_trans hvs hb.size
  clear hb hHeld
  refine hK.out _ _ (BX.out _ BV.out) (fun hHeld => ?_)
  clear hK K
  try simp only [Act.put, List.setIfInBounds_toArray, List.set_cons_zero, List.set_cons_succ]
  refine wpAnyH_take (i := 2) (oi := { dst := some 7, op := Op.move (Operand.tmp 6), type := 4, pos := "ref.go:358", after := #[{ on := 1, ground := Ground.data }, { on := 1, ground := Ground.chain }], guard := none }) (v := ?vn2k2) rfl (by kernel_rfl) (by kernel_rfl) (by kernel_rfl) (fun _ _ _ h => h) (Or.inl ⟨by kernel_rfl, ?yn2k2⟩) (by assumption) ?rn2k2
  case yn2k2 => intro w hSw; (try dsimp only at hSw); go_simp; try with_reducible rfl
  try simp only [Act.put, List.setIfInBounds_toArray, List.set_cons_zero, List.set_cons_succ]
  refine wpAnyH_take (i := 3) (oi := { dst := some 8, op := Op.load 37 (Operand.tmp 3), type := 37, pos := "ref.go:358", after := #[{ on := 2, ground := Ground.guard }], guard := some (2, true) }) (v := ?vn3k3) rfl (by kernel_rfl) (by kernel_rfl) (by kernel_rfl) (fun _ _ _ h => h) (Or.inl ⟨by kernel_rfl, ?yn3k3⟩) (by assumption) ?rn3k3
  case yn3k3 => intro w hSw; (try dsimp only at hSw); go_simp; try with_reducible rfl
  try simp only [Act.put, List.setIfInBounds_toArray, List.set_cons_zero, List.set_cons_succ]
  refine wpAnyH_ready (rs := [4]) (by kernel_rfl) (by simp) (AllReadyH.cons (o := { dst := some 9, op := Op.call { callee := Callee.value (Operand.func 34), args := #[Operand.tmp 8], argTypes := #[37] }, type := 4, pos := "ref.go:358", after := #[{ on := 3, ground := Ground.data }, { on := 2, ground := Ground.chain }, { on := 2, ground := Ground.guard }], guard := some (2, true) }) rfl (fun K hK => ?_) AllReadyH.nil)
  go_simp
  refine (VQ.out _ BA.out).mono ?_
  rintro e y1 ⟨rfl, hb⟩
  replace BV := Lib.hid (BV.out.trans (hb.mono hvs))
  replace BA := Lib.hid (BA.out.trans (hb.mono BA.out.size))
  replace hvs : w.heap.size + 2 ≤ y1.heap.size := Nat.le_trans hvs hb.size
  clear hb hHeld
  refine hK.out _ _ (BX.out _ BV.out) (fun hHeld => ?_)
  clear hK K
  try simp only [Act.put, List.setIfInBounds_toArray, List.set_cons_zero, List.set_cons_succ]
  refine wpAnyH_take (i := 5) (oi := { dst := some 10, op := Op.pick (Operand.tmp 7) (Operand.tmp 9) (Operand.const (Value.bool false)), type := 4, pos := "ref.go:358", after := #[{ on := 2, ground := Ground.data }, { on := 4, ground := Ground.data }], guard := none }) (v := ?vn4k5) rfl (by kernel_rfl) (by kernel_rfl) (by kernel_rfl) (fun _ _ _ h => h) (Or.inl ⟨by kernel_rfl, ?yn4k5⟩) (by assumption) ?rn4k5
  case yn4k5 => intro w hSw; (try dsimp only at hSw); go_simp; try with_reducible rfl
  try simp only [Act.put, List.setIfInBounds_toArray, List.set_cons_zero, List.set_cons_succ]
  refine wpAnyH_take (i := 6) (oi := { dst := some 11, op := Op.move (Operand.tmp 10), type := 4, pos := "ref.go:358", after := #[{ on := 5, ground := Ground.data }, { on := 4, ground := Ground.chain }], guard := none }) (v := ?vn5k6) rfl (by kernel_rfl) (by kernel_rfl) (by kernel_rfl) (fun _ _ _ h => h) (Or.inl ⟨by kernel_rfl, ?yn5k6⟩) (by assumption) ?rn5k6
  case yn5k6 => intro w hSw; (try dsimp only at hSw); go_simp; try with_reducible rfl
  try simp only [Act.put, List.setIfInBounds_toArray, List.set_cons_zero, List.set_cons_succ]
  refine wpAnyH_take (i := 7) (oi := { dst := some 12, op := Op.fieldAddr 37 (Operand.tmp 2) 0, type := 0, pos := "ref.go:358", after := #[{ on := 6, ground := Ground.guard }], guard := some (6, true) }) (v := ?vn6k7) rfl (by kernel_rfl) (by kernel_rfl) (by kernel_rfl) (fun _ _ _ h => h) (Or.inl ⟨by kernel_rfl, ?yn6k7⟩) (by assumption) ?rn6k7
  case yn6k7 => intro w hSw; (try dsimp only at hSw); go_simp; try with_reducible rfl
  try simp only [Act.put, List.setIfInBounds_toArray, List.set_cons_zero, List.set_cons_succ]
  refine wpAnyH_take (i := 8) (oi := { dst := some 13, op := Op.load 23 (Operand.tmp 12), type := 23, pos := "ref.go:358", after := #[{ on := 7, ground := Ground.data }, { on := 6, ground := Ground.guard }], guard := some (6, true) }) (v := ?vn7k8) rfl (by kernel_rfl) (by kernel_rfl) (by kernel_rfl) (fun _ _ _ h => h) (Or.inl ⟨by kernel_rfl, ?yn7k8⟩) (by assumption) ?rn7k8
  case yn7k8 => intro w hSw; (try dsimp only at hSw); go_simp; try with_reducible rfl
  try simp only [Act.put, List.setIfInBounds_toArray, List.set_cons_zero, List.set_cons_succ]
  refine wpAnyH_take (i := 10) (oi := { dst := some 15, op := Op.fieldAddr 37 (Operand.tmp 3) 0, type := 0, pos := "ref.go:358", after := #[{ on := 6, ground := Ground.guard }], guard := some (6, true) }) (v := ?vn8k10) rfl (by kernel_rfl) (by kernel_rfl) (by kernel_rfl) (fun _ _ _ h => h) (Or.inl ⟨by kernel_rfl, ?yn8k10⟩) (by assumption) ?rn8k10
  case yn8k10 => intro w hSw; (try dsimp only at hSw); go_simp; try with_reducible rfl
  try simp only [Act.put, List.setIfInBounds_toArray, List.set_cons_zero, List.set_cons_succ]
  refine wpAnyH_take (i := 11) (oi := { dst := some 16, op := Op.load 23 (Operand.tmp 15), type := 23, pos := "ref.go:358", after := #[{ on := 10, ground := Ground.data }, { on := 6, ground := Ground.guard }], guard := some (6, true) }) (v := ?vn9k11) rfl (by kernel_rfl) (by kernel_rfl) (by kernel_rfl) (fun _ _ _ h => h) (Or.inl ⟨by kernel_rfl, ?yn9k11⟩) (by assumption) ?rn9k11
  case yn9k11 => intro w hSw; (try dsimp only at hSw); go_simp; try with_reducible rfl
  try simp only [Act.put, List.setIfInBounds_toArray, List.set_cons_zero, List.set_cons_succ]
  refine wpAnyH_ready (rs := [9]) (by kernel_rfl) (by simp) (AllReadyH.cons (o := { dst := some 14, op := Op.call { callee := Callee.value (Operand.func 64), args := #[Operand.tmp 13], argTypes := #[23] }, type := 86, pos := "ref.go:358", after := #[{ on := 8, ground := Ground.data }, { on := 6, ground := Ground.chain }, { on := 6, ground := Ground.guard }], guard := some (6, true) }) rfl (fun K hK => ?_) AllReadyH.nil)
  go_simp
  refine (S1.out _ BA.out).mono ?_
  rintro e y2 ⟨rfl, rfl⟩
  clear hHeld
  refine hK.out _ _ (BX.out _ BV.out) (fun hHeld => ?_)
  clear hK K
  try simp only [Act.put, List.setIfInBounds_toArray, List.set_cons_zero, List.set_cons_succ]
  refine wpAnyH_ready (rs := [12]) (by kernel_rfl) (by simp) (AllReadyH.cons (o := { dst := some 17, op := Op.call { callee := Callee.value (Operand.func 64), args := #[Operand.tmp 16], argTypes := #[23] }, type := 86, pos := "ref.go:358", after := #[{ on := 11, ground := Ground.data }, { on := 9, ground := Ground.chain }, { on := 6, ground := Ground.guard }], guard := some (6, true) }) rfl (fun K hK => ?_) AllReadyH.nil)
  go_simp
  refine (T1.out _ BA.out).mono ?_
  rintro e y3 ⟨rfl, rfl⟩
  clear hHeld
  refine hK.out _ _ (BX.out _ BV.out) (fun hHeld => ?_)
  clear hK K
  try simp only [Act.put, List.setIfInBounds_toArray, List.set_cons_zero, List.set_cons_succ]
  refine wpAnyH_take (i := 13) (oi := { dst := some 18, op := Op.binOp BinOp.eql 86 (Operand.tmp 14) (Operand.tmp 17) 86, type := 4, pos := "ref.go:358", after := #[{ on := 9, ground := Ground.data }, { on := 12, ground := Ground.data }, { on := 6, ground := Ground.guard }], guard := some (6, true) }) (v := ?vn10k13) rfl (by kernel_rfl) (by kernel_rfl) (by kernel_rfl) (fun _ _ _ h => h) (Or.inl ⟨by kernel_rfl, ?yn10k13⟩) (by assumption) ?rn10k13
  case yn10k13 => intro w hSw; (try dsimp only at hSw); go_simp; try with_reducible rfl
  try simp only [Act.put, List.setIfInBounds_toArray, List.set_cons_zero, List.set_cons_succ]
  refine wpAnyH_take (i := 14) (oi := { dst := some 19, op := Op.pick (Operand.tmp 11) (Operand.tmp 18) (Operand.const (Value.bool false)), type := 4, pos := "ref.go:358", after := #[{ on := 6, ground := Ground.data }, { on := 13, ground := Ground.data }], guard := none }) (v := ?vn11k14) rfl (by kernel_rfl) (by kernel_rfl) (by kernel_rfl) (fun _ _ _ h => h) (Or.inl ⟨by kernel_rfl, ?yn11k14⟩) (by assumption) ?rn11k14
  case yn11k14 => intro w hSw; (try dsimp only at hSw); go_simp; try with_reducible rfl
  try simp only [Act.put, List.setIfInBounds_toArray, List.set_cons_zero, List.set_cons_succ]
  refine wpAnyH_take (i := 15) (oi := { dst := some 20, op := Op.move (Operand.tmp 19), type := 4, pos := "ref.go:358", after := #[{ on := 14, ground := Ground.data }, { on := 12, ground := Ground.chain }], guard := none }) (v := ?vn12k15) rfl (by kernel_rfl) (by kernel_rfl) (by kernel_rfl) (fun _ _ _ h => h) (Or.inl ⟨by kernel_rfl, ?yn12k15⟩) (by assumption) ?rn12k15
  case yn12k15 => intro w hSw; (try dsimp only at hSw); go_simp; try with_reducible rfl
  try simp only [Act.put, List.setIfInBounds_toArray, List.set_cons_zero, List.set_cons_succ]
  refine wpAnyH_take (i := 16) (oi := { dst := some 21, op := Op.fieldAddr 37 (Operand.tmp 2) 1, type := 0, pos := "ref.go:358", after := #[{ on := 15, ground := Ground.guard }], guard := some (15, true) }) (v := ?vn13k16) rfl (by kernel_rfl) (by kernel_rfl) (by kernel_rfl) (fun _ _ _ h => h) (Or.inl ⟨by kernel_rfl, ?yn13k16⟩) (by assumption) ?rn13k16
  case yn13k16 => intro w hSw; (try dsimp only at hSw); go_simp; try with_reducible rfl
  try simp only [Act.put, List.setIfInBounds_toArray, List.set_cons_zero, List.set_cons_succ]
  refine wpAnyH_take (i := 17) (oi := { dst := some 22, op := Op.load 23 (Operand.tmp 21), type := 23, pos := "ref.go:358", after := #[{ on := 16, ground := Ground.data }, { on := 15, ground := Ground.guard }], guard := some (15, true) }) (v := ?vn14k17) rfl (by kernel_rfl) (by kernel_rfl) (by kernel_rfl) (fun _ _ _ h => h) (Or.inl ⟨by kernel_rfl, ?yn14k17⟩) (by assumption) ?rn14k17
  case yn14k17 => intro w hSw; (try dsimp only at hSw); go_simp; try with_reducible rfl
  try simp only [Act.put, List.setIfInBounds_toArray, List.set_cons_zero, List.set_cons_succ]
  refine wpAnyH_take (i := 19) (oi := { dst := some 24, op := Op.fieldAddr 37 (Operand.tmp 3) 1, type := 0, pos := "ref.go:358", after := #[{ on := 15, ground := Ground.guard }], guard := some (15, true) }) (v := ?vn15k19) rfl (by kernel_rfl) (by kernel_rfl) (by kernel_rfl) (fun _ _ _ h => h) (Or.inl ⟨by kernel_rfl, ?yn15k19⟩) (by assumption) ?rn15k19
  case yn15k19 => intro w hSw; (try dsimp only at hSw); go_simp; try with_reducible rfl
  try simp only [Act.put, List.setIfInBounds_toArray, List.set_cons_zero, List.set_cons_succ]
  refine wpAnyH_take (i := 20) (oi := { dst := some 25, op := Op.load 23 (Operand.tmp 24), type := 23, pos := "ref.go:358", after := #[{ on := 19, ground := Ground.data }, { on := 15, ground := Ground.guard }], guard := some (15, true) }) (v := ?vn16k20) rfl (by kernel_rfl) (by kernel_rfl) (by kernel_rfl) (fun _ _ _ h => h) (Or.inl ⟨by kernel_rfl, ?yn16k20⟩) (by assumption) ?rn16k20
  case yn16k20 => intro w hSw; (try dsimp only at hSw); go_simp; try with_reducible rfl
  try simp only [Act.put, List.setIfInBounds_toArray, List.set_cons_zero, List.set_cons_succ]
  refine wpAnyH_ready (rs := [18]) (by kernel_rfl) (by simp) (AllReadyH.cons (o := { dst := some 23, op := Op.call { callee := Callee.value (Operand.func 64), args := #[Operand.tmp 22], argTypes := #[23] }, type := 86, pos := "ref.go:358", after := #[{ on := 17, ground := Ground.data }, { on := 15, ground := Ground.chain }, { on := 15, ground := Ground.guard }], guard := some (15, true) }) rfl (fun K hK => ?_) AllReadyH.nil)
  go_simp
  refine (S2.out _ BA.out).mono ?_
  rintro e y4 ⟨rfl, rfl⟩
  clear hHeld
  refine hK.out _ _ (BX.out _ BV.out) (fun hHeld => ?_)
  clear hK K
  try simp only [Act.put, List.setIfInBounds_toArray, List.set_cons_zero, List.set_cons_succ]
  refine wpAnyH_ready (rs := [21]) (by kernel_rfl) (by simp) (AllReadyH.cons (o := { dst := some 26, op := Op.call { callee := Callee.value (Operand.func 64), args := #[Operand.tmp 25], argTypes := #[23] }, type := 86, pos := "ref.go:358", after := #[{ on := 20, ground := Ground.data }, { on := 18, ground := Ground.chain }, { on := 15, ground := Ground.guard }], guard := some (15, true) }) rfl (fun K hK => ?_) AllReadyH.nil)
  go_simp
  refine (T2.out _ BA.out).mono ?_
  rintro e y5 ⟨rfl, rfl⟩
  clear hHeld
  refine hK.out _ _ (BX.out _ BV.out) (fun hHeld => ?_)
  clear hK K
  try simp only [Act.put, List.setIfInBounds_toArray, List.set_cons_zero, List.set_cons_succ]
  refine wpAnyH_take (i := 22) (oi := { dst := some 27, op := Op.binOp BinOp.eql 86 (Operand.tmp 23) (Operand.tmp 26) 86, type := 4, pos := "ref.go:358", after := #[{ on := 18, ground := Ground.data }, { on := 21, ground := Ground.data }, { on := 15, ground := Ground.guard }], guard := some (15, true) }) (v := ?vn17k22) rfl (by kernel_rfl) (by kernel_rfl) (by kernel_rfl) (fun _ _ _ h => h) (Or.inl ⟨by kernel_rfl, ?yn17k22⟩) (by assumption) ?rn17k22
  case yn17k22 => intro w hSw; (try dsimp only at hSw); go_simp; try with_reducible rfl
  try simp only [Act.put, List.setIfInBounds_toArray, List.set_cons_zero, List.set_cons_succ]
  refine wpAnyH_take (i := 23) (oi := { dst := some 28, op := Op.pick (Operand.tmp 20) (Operand.tmp 27) (Operand.const (Value.bool false)), type := 4, pos := "ref.go:358", after := #[{ on := 15, ground := Ground.data }, { on := 22, ground := Ground.data }], guard := none }) (v := ?vn18k23) rfl (by kernel_rfl) (by kernel_rfl) (by kernel_rfl) (fun _ _ _ h => h) (Or.inl ⟨by kernel_rfl, ?yn18k23⟩) (by assumption) ?rn18k23
  case yn18k23 => intro w hSw; (try dsimp only at hSw); go_simp; try with_reducible rfl
  try simp only [Act.put, List.setIfInBounds_toArray, List.set_cons_zero, List.set_cons_succ]
  refine wpAnyH_take (i := 24) (oi := { dst := some 29, op := Op.move (Operand.tmp 28), type := 4, pos := "ref.go:358", after := #[{ on := 23, ground := Ground.data }, { on := 21, ground := Ground.chain }], guard := none }) (v := ?vn19k24) rfl (by kernel_rfl) (by kernel_rfl) (by kernel_rfl) (fun _ _ _ h => h) (Or.inl ⟨by kernel_rfl, ?yn19k24⟩) (by assumption) ?rn19k24
  case yn19k24 => intro w hSw; (try dsimp only at hSw); go_simp; try with_reducible rfl
  try simp only [Act.put, List.setIfInBounds_toArray, List.set_cons_zero, List.set_cons_succ]
  refine wpAnyH_take (i := 25) (oi := { dst := some 30, op := Op.fieldAddr 37 (Operand.tmp 2) 2, type := 0, pos := "ref.go:358", after := #[{ on := 24, ground := Ground.guard }], guard := some (24, true) }) (v := ?vn20k25) rfl (by kernel_rfl) (by kernel_rfl) (by kernel_rfl) (fun _ _ _ h => h) (Or.inl ⟨by kernel_rfl, ?yn20k25⟩) (by assumption) ?rn20k25
  case yn20k25 => intro w hSw; (try dsimp only at hSw); go_simp; try with_reducible rfl
  try simp only [Act.put, List.setIfInBounds_toArray, List.set_cons_zero, List.set_cons_succ]
  refine wpAnyH_take (i := 26) (oi := { dst := some 31, op := Op.load 3 (Operand.tmp 30), type := 3, pos := "ref.go:358", after := #[{ on := 25, ground := Ground.data }, { on := 24, ground := Ground.guard }], guard := some (24, true) }) (v := ?vn21k26) rfl (by kernel_rfl) (by kernel_rfl) (by kernel_rfl) (fun _ _ _ h => h) (Or.inl ⟨by kernel_rfl, ?yn21k26⟩) (by assumption) ?rn21k26
  case yn21k26 => intro w hSw; (try dsimp only at hSw); go_simp; try with_reducible rfl
  try simp only [Act.put, List.setIfInBounds_toArray, List.set_cons_zero, List.set_cons_succ]
  refine wpAnyH_take (i := 27) (oi := { dst := some 32, op := Op.fieldAddr 37 (Operand.tmp 3) 2, type := 0, pos := "ref.go:358", after := #[{ on := 24, ground := Ground.guard }], guard := some (24, true) }) (v := ?vn22k27) rfl (by kernel_rfl) (by kernel_rfl) (by kernel_rfl) (fun _ _ _ h => h) (Or.inl ⟨by kernel_rfl, ?yn22k27⟩) (by assumption) ?rn22k27
  case yn22k27 => intro w hSw; (try dsimp only at hSw); go_simp; try with_reducible rfl
  try simp only [Act.put, List.setIfInBounds_toArray, List.set_cons_zero, List.set_cons_succ]
  refine wpAnyH_take (i := 28) (oi := { dst := some 33, op := Op.load 3 (Operand.tmp 32), type := 3, pos := "ref.go:358", after := #[{ on := 27, ground := Ground.data }, { on := 24, ground := Ground.guard }], guard := some (24, true) }) (v := ?vn23k28) rfl (by kernel_rfl) (by kernel_rfl) (by kernel_rfl) (fun _ _ _ h => h) (Or.inl ⟨by kernel_rfl, ?yn23k28⟩) (by assumption) ?rn23k28
  case yn23k28 => intro w hSw; (try dsimp only at hSw); go_simp; try with_reducible rfl
  try simp only [Act.put, List.setIfInBounds_toArray, List.set_cons_zero, List.set_cons_succ]
  refine wpAnyH_take (i := 29) (oi := { dst := some 34, op := Op.binOp BinOp.eql 3 (Operand.tmp 31) (Operand.tmp 33) 3, type := 4, pos := "ref.go:358", after := #[{ on := 26, ground := Ground.data }, { on := 28, ground := Ground.data }, { on := 24, ground := Ground.guard }], guard := some (24, true) }) (v := ?vn24k29) rfl (by kernel_rfl) (by kernel_rfl) (by kernel_rfl) (fun _ _ _ h => h) (Or.inl ⟨by kernel_rfl, ?yn24k29⟩) (by assumption) ?rn24k29
  case yn24k29 => intro w hSw; (try dsimp only at hSw); go_simp; try with_reducible rfl
  try simp only [Act.put, List.setIfInBounds_toArray, List.set_cons_zero, List.set_cons_succ]
  refine wpAnyH_take (i := 30) (oi := { dst := some 35, op := Op.pick (Operand.tmp 29) (Operand.tmp 34) (Operand.const (Value.bool false)), type := 4, pos := "ref.go:358", after := #[{ on := 24, ground := Ground.data }, { on := 29, ground := Ground.data }], guard := none }) (v := ?vn25k30) rfl (by kernel_rfl) (by kernel_rfl) (by kernel_rfl) (fun _ _ _ h => h) (Or.inl ⟨by kernel_rfl, ?yn25k30⟩) (by assumption) ?rn25k30
  case yn25k30 => intro w hSw; (try dsimp only at hSw); go_simp; try with_reducible rfl
  try simp only [Act.put, List.setIfInBounds_toArray, List.set_cons_zero, List.set_cons_succ]
  refine wpAnyH_take (i := 31) (oi := { dst := some 36, op := Op.move (Operand.tmp 35), type := 4, pos := "ref.go:358", after := #[{ on := 30, ground := Ground.data }, { on := 24, ground := Ground.chain }], guard := none }) (v := ?vn26k31) rfl (by kernel_rfl) (by kernel_rfl) (by kernel_rfl) (fun _ _ _ h => h) (Or.inl ⟨by kernel_rfl, ?yn26k31⟩) (by assumption) ?rn26k31
  case yn26k31 => intro w hSw; (try dsimp only at hSw); go_simp; try with_reducible rfl
  try simp only [Act.put, List.setIfInBounds_toArray, List.set_cons_zero, List.set_cons_succ]
  refine wpAnyH_take (i := 32) (oi := { dst := some 37, op := Op.fieldAddr 37 (Operand.tmp 2) 3, type := 0, pos := "ref.go:358", after := #[{ on := 31, ground := Ground.guard }], guard := some (31, true) }) (v := ?vn27k32) rfl (by kernel_rfl) (by kernel_rfl) (by kernel_rfl) (fun _ _ _ h => h) (Or.inl ⟨by kernel_rfl, ?yn27k32⟩) (by assumption) ?rn27k32
  case yn27k32 => intro w hSw; (try dsimp only at hSw); go_simp; try with_reducible rfl
  try simp only [Act.put, List.setIfInBounds_toArray, List.set_cons_zero, List.set_cons_succ]
  refine wpAnyH_take (i := 33) (oi := { dst := some 38, op := Op.load 3 (Operand.tmp 37), type := 3, pos := "ref.go:358", after := #[{ on := 32, ground := Ground.data }, { on := 31, ground := Ground.guard }], guard := some (31, true) }) (v := ?vn28k33) rfl (by kernel_rfl) (by kernel_rfl) (by kernel_rfl) (fun _ _ _ h => h) (Or.inl ⟨by kernel_rfl, ?yn28k33⟩) (by assumption) ?rn28k33
  case yn28k33 => intro w hSw; (try dsimp only at hSw); go_simp; try with_reducible rfl
  try simp only [Act.put, List.setIfInBounds_toArray, List.set_cons_zero, List.set_cons_succ]
  refine wpAnyH_take (i := 34) (oi := { dst := some 39, op := Op.fieldAddr 37 (Operand.tmp 3) 3, type := 0, pos := "ref.go:358", after := #[{ on := 31, ground := Ground.guard }], guard := some (31, true) }) (v := ?vn29k34) rfl (by kernel_rfl) (by kernel_rfl) (by kernel_rfl) (fun _ _ _ h => h) (Or.inl ⟨by kernel_rfl, ?yn29k34⟩) (by assumption) ?rn29k34
  case yn29k34 => intro w hSw; (try dsimp only at hSw); go_simp; try with_reducible rfl
  try simp only [Act.put, List.setIfInBounds_toArray, List.set_cons_zero, List.set_cons_succ]
  refine wpAnyH_take (i := 35) (oi := { dst := some 40, op := Op.load 3 (Operand.tmp 39), type := 3, pos := "ref.go:358", after := #[{ on := 34, ground := Ground.data }, { on := 31, ground := Ground.guard }], guard := some (31, true) }) (v := ?vn30k35) rfl (by kernel_rfl) (by kernel_rfl) (by kernel_rfl) (fun _ _ _ h => h) (Or.inl ⟨by kernel_rfl, ?yn30k35⟩) (by assumption) ?rn30k35
  case yn30k35 => intro w hSw; (try dsimp only at hSw); go_simp; try with_reducible rfl
  try simp only [Act.put, List.setIfInBounds_toArray, List.set_cons_zero, List.set_cons_succ]
  refine wpAnyH_take (i := 36) (oi := { dst := some 41, op := Op.binOp BinOp.eql 3 (Operand.tmp 38) (Operand.tmp 40) 3, type := 4, pos := "ref.go:358", after := #[{ on := 33, ground := Ground.data }, { on := 35, ground := Ground.data }, { on := 31, ground := Ground.guard }], guard := some (31, true) }) (v := ?vn31k36) rfl (by kernel_rfl) (by kernel_rfl) (by kernel_rfl) (fun _ _ _ h => h) (Or.inl ⟨by kernel_rfl, ?yn31k36⟩) (by assumption) ?rn31k36
  case yn31k36 => intro w hSw; (try dsimp only at hSw); go_simp; try with_reducible rfl
  try simp only [Act.put, List.setIfInBounds_toArray, List.set_cons_zero, List.set_cons_succ]
  refine wpAnyH_take (i := 37) (oi := { dst := some 42, op := Op.pick (Operand.tmp 36) (Operand.tmp 41) (Operand.const (Value.bool false)), type := 4, pos := "ref.go:358", after := #[{ on := 31, ground := Ground.data }, { on := 36, ground := Ground.data }], guard := none }) (v := ?vn32k37) rfl (by kernel_rfl) (by kernel_rfl) (by kernel_rfl) (fun _ _ _ h => h) (Or.inl ⟨by kernel_rfl, ?yn32k37⟩) (by assumption) ?rn32k37
  case yn32k37 => intro w hSw; (try dsimp only at hSw); go_simp; try with_reducible rfl
  try simp only [Act.put, List.setIfInBounds_toArray, List.set_cons_zero, List.set_cons_succ]
  refine wpAnyH_take (i := 38) (oi := { dst := some 4, op := Op.assign (Operand.tmp 42), type := 4, pos := "ref.go:358", after := #[{ on := 37, ground := Ground.data }, { on := 31, ground := Ground.chain }, { on := 0, ground := Ground.phase }, { on := 1, ground := Ground.phase }, { on := 2, ground := Ground.phase }, { on := 3, ground := Ground.phase }, { on := 4, ground := Ground.phase }, { on := 5, ground := Ground.phase }, { on := 6, ground := Ground.phase }, { on := 7, ground := Ground.phase }, { on := 8, ground := Ground.phase }, { on := 9, ground := Ground.phase }, { on := 10, ground := Ground.phase }, { on := 11, ground := Ground.phase }, { on := 12, ground := Ground.phase }, { on := 13, ground := Ground.phase }, { on := 14, ground := Ground.phase }, { on := 15, ground := Ground.phase }, { on := 16, ground := Ground.phase }, { on := 17, ground := Ground.phase }, { on := 18, ground := Ground.phase }, { on := 19, ground := Ground.phase }, { on := 20, ground := Ground.phase }, { on := 21, ground := Ground.phase }, { on := 22, ground := Ground.phase }, { on := 23, ground := Ground.phase }, { on := 24, ground := Ground.phase }, { on := 25, ground := Ground.phase }, { on := 26, ground := Ground.phase }, { on := 27, ground := Ground.phase }, { on := 28, ground := Ground.phase }, { on := 29, ground := Ground.phase }, { on := 30, ground := Ground.phase }, { on := 31, ground := Ground.phase }, { on := 32, ground := Ground.phase }, { on := 33, ground := Ground.phase }, { on := 34, ground := Ground.phase }, { on := 35, ground := Ground.phase }, { on := 36, ground := Ground.phase }, { on := 37, ground := Ground.phase }], guard := none }) (v := ?vn33k38) rfl (by kernel_rfl) (by kernel_rfl) (by kernel_rfl) (fun _ _ _ h => h) (Or.inl ⟨by kernel_rfl, ?yn33k38⟩) (by assumption) ?rn33k38
  case yn33k38 => intro w hSw; (try dsimp only at hSw); go_simp; try with_reducible rfl
  try simp only [Act.put, List.setIfInBounds_toArray, List.set_cons_zero, List.set_cons_succ]
  refine wpAnyH_done (by kernel_rfl) ?_ _
  go_wp2_with fail
  go_ret
  exact ⟨rfl, BA.out⟩
end Go.Proofs.YtgjphbkaonaneaaDoor

/-
  The law's own tests: which families are light, and which are zero.
-/
namespace Go.Proofs.YtgjphbkaonaneaaDoor
set_option linter.unusedSimpArgs false
open Go Go.RowKit Go.Shelf Go.Ev

theorem zero_true (w : World) : Calls Tryd.prog 30 #[.agg #[.slice none 0 0, .slice none 0 0, .int .i64 0, .int .i64 0]] w fun e w' => e = .returned (.bool true) ∧ Below w.heap.size w w' := by
  have BA := Lib.hid (show Below w.heap.size w (w.alloc (.cells #[.slice none 0 0, .slice none 0 0, .int .i64 0, .int .i64 0] 37)) from (Below.refl _ w).alloc (Nat.le_refl _) _)
  go_enter Tryd.func30, Tryd.ntmps30
  go_wp2_with fail
  go_ret
  exact ⟨rfl, BA.out⟩
def lightB (n1 n2 n3 n4 : Nat) : Bool := decide (n1 ≤ 100) && decide (n2 ≤ 100) && (decide (n3 ≤ 100) && decide (n4 ≤ 100))
set_option maxRecDepth 100000 in
set_option maxHeartbeats 8000000 in
theorem light2_any (n1 n2 n3 n4 : Nat) (A B A' B' : Option Addr) (c1 c2 c1' c2' : Nat) (mn mx mn' mx' : Int) (b : Nat) (w : World)
    (hb : w.heap[b]? = some (.cells #[.slice A n1 c1, .slice B n2 c2, .int .i64 mn, .int .i64 mx, .slice A' n3 c1', .slice B' n4 c2', .int .i64 mn', .int .i64 mx'] 37 (0, 0))) :
    Calls Tryd.prog 25 #[.slice (some ⟨b, 0, none⟩) 2 2] w fun e w' => e = .returned (.bool (lightB n1 n2 n3 n4)) ∧ Below w.heap.size w w' := by
  have hbl : b < w.heap.size := (Array.getElem?_eq_some_iff.1 hb).1
  have BX := Lib.hid (show ∀ wx : World, Below w.heap.size w wx → wx.cell? ⟨b, 0, none⟩ = some (.slice A n1 c1) ∧ wx.cell? ⟨b, 1, none⟩ = some (.slice B n2 c2) ∧ wx.cell? ⟨b, 2, none⟩ = some (.int .i64 mn) ∧ wx.cell? ⟨b, 3, none⟩ = some (.int .i64 mx) ∧ wx.cell? ⟨b, 4, none⟩ = some (.slice A' n3 c1') ∧ wx.cell? ⟨b, 5, none⟩ = some (.slice B' n4 c2') ∧ wx.cell? ⟨b, 6, none⟩ = some (.int .i64 mn') ∧ wx.cell? ⟨b, 7, none⟩ = some (.int .i64 mx') from fun wx h => by
    have hh := (h.block b hbl).trans hb
    refine ⟨?_, ?_, ?_, ?_, ?_, ?_, ?_, ?_⟩ <;> (simp only [World.cell?, hh]; rfl))
  clear hb
  go_enter Tryd.func25, Tryd.ntmps25
  go_wp2_with fail
  go_loopw [4, 7] (fun _ i wr => ((i = .int .i64 0) ∨ (i = .int .i64 1 ∧ n1 ≤ 100 ∧ n2 ≤ 100) ∨ (i = .int .i64 2 ∧ n1 ≤ 100 ∧ n2 ≤ 100 ∧ n3 ≤ 100 ∧ n4 ≤ 100)) ∧ Below w.heap.size w wr) (fun _ i _ => 2 - (intOf i).toNat)
  case atStart => exact ⟨Or.inl rfl, Below.refl _ _⟩
  case round =>
    obtain ⟨hi, hbw⟩ := hrel
    obtain ⟨x0, x1, x2, x3, x4, x5, x6, x7⟩ := BX.out _ hbw
    have BW := Lib.hid hbw
    clear hbw
    rcases hi with rfl | ⟨rfl, p1, p2⟩ | ⟨rfl, p1, p2, p3, p4⟩
    · by_cases a1 : (100 : Int) < (n1 : Int)
      · have E := Lib.hid (show lightB n1 n2 n3 n4 = false from by unfold lightB; rw [decide_eq_false (show ¬ n1 ≤ 100 by omega)]; simp)
        have BA := Lib.hid (BW.out.trans (((Below.refl _ wr).alloc (Nat.le_refl _) (.cells #[.slice A n1 c1, .slice B n2 c2, .int .i64 mn, .int .i64 mx] 37)).mono BW.out.size))
        go_wp2_with fail
        go_ret
        exact ⟨by rw [E.out]; rfl, BA.out⟩
      · by_cases a2 : (100 : Int) < (n2 : Int)
        · have E := Lib.hid (show lightB n1 n2 n3 n4 = false from by unfold lightB; rw [decide_eq_false (show ¬ n2 ≤ 100 by omega)]; simp)
          have BA := Lib.hid (BW.out.trans (((Below.refl _ wr).alloc (Nat.le_refl _) (.cells #[.slice A n1 c1, .slice B n2 c2, .int .i64 mn, .int .i64 mx] 37)).mono BW.out.size))
          go_wp2_with fail
          go_ret
          exact ⟨by rw [E.out]; rfl, BA.out⟩
        · have BA := Lib.hid (BW.out.trans (((Below.refl _ wr).alloc (Nat.le_refl _) (.cells #[.slice A n1 c1, .slice B n2 c2, .int .i64 mn, .int .i64 mx] 37)).mono BW.out.size))
          go_wp2_with fail
          go_roundw
          case rel => exact ⟨Or.inr (Or.inl ⟨rfl, by omega, by omega⟩), BA.out⟩
          case measure => simp [intOf]
    · by_cases a1 : (100 : Int) < (n3 : Int)
      · have E := Lib.hid (show lightB n1 n2 n3 n4 = false from by unfold lightB; rw [decide_eq_false (show ¬ n3 ≤ 100 by omega)]; simp)
        have BA := Lib.hid (BW.out.trans (((Below.refl _ wr).alloc (Nat.le_refl _) (.cells #[.slice A' n3 c1', .slice B' n4 c2', .int .i64 mn', .int .i64 mx'] 37)).mono BW.out.size))
        go_wp2_with fail
        go_ret
        exact ⟨by rw [E.out]; rfl, BA.out⟩
      · by_cases a2 : (100 : Int) < (n4 : Int)
        · have E := Lib.hid (show lightB n1 n2 n3 n4 = false from by unfold lightB; rw [decide_eq_false (show ¬ n4 ≤ 100 by omega)]; simp)
          have BA := Lib.hid (BW.out.trans (((Below.refl _ wr).alloc (Nat.le_refl _) (.cells #[.slice A' n3 c1', .slice B' n4 c2', .int .i64 mn', .int .i64 mx'] 37)).mono BW.out.size))
          go_wp2_with fail
          go_ret
          exact ⟨by rw [E.out]; rfl, BA.out⟩
        · have BA := Lib.hid (BW.out.trans (((Below.refl _ wr).alloc (Nat.le_refl _) (.cells #[.slice A' n3 c1', .slice B' n4 c2', .int .i64 mn', .int .i64 mx'] 37)).mono BW.out.size))
          go_wp2_with fail
          go_roundw
          case rel => exact ⟨Or.inr (Or.inr ⟨rfl, p1, p2, by omega, by omega⟩), BA.out⟩
          case measure => simp [intOf]
    · have E := Lib.hid (show lightB n1 n2 n3 n4 = true from by unfold lightB; rw [decide_eq_true p1, decide_eq_true p2, decide_eq_true p3, decide_eq_true p4]; rfl)
      go_wp2_with fail
      go_ret
      exact ⟨by rw [E.out]; rfl, BW.out⟩
end Go.Proofs.YtgjphbkaonaneaaDoor

/-
  The choices: a row of Pascal's triangle.
-/
namespace Go.Proofs.YtgjphbkaonaneaaDoor
set_option linter.unusedSimpArgs false
open Go Go.RowKit Go.Shelf Go.Ev

theorem wrap63 {n : Int} {m : Nat} (h : n = m) (hm : m < 9223372036854775808) : IntKind.i64.wrap n = m := by
  rw [h, IntKind.wrap_i64]
  omega
set_option maxRecDepth 100000 in
set_option maxHeartbeats 8000000 in
theorem choices_any (N : Nat) (hN : N ≤ 64) (w : World) :
    Calls Tryd.prog 67 #[.int .i64 N] w fun e w' => ∃ g, e = .returned (.slice (some ⟨g, 0, none⟩) (N + 1) (N + 1)) ∧ w.heap.size ≤ g ∧ w'.rowIs g 3 (N + 1) (fun j => .int .i64 (ch N j : Nat)) ∧ Below w.heap.size w w' := by
  have hmk : ∀ w : World, (Instr.makeSlice 23 (.int .i64 ((N : Int) + 1)) (.int .i64 ((N : Int) + 1))).run Tryd.prog w = .ok (.slice (some ⟨w.heap.size, 0, none⟩) (N + 1) (N + 1)) (w.alloc (.cells (madeCells #[.int .i64 0] (N + 1)) 3)) := fun w => by
    have := run_make_row' (P := Tryd.prog) 23 3 (.int .i64 0) 8 Tryd.underlying23 infoI rfl .i64 .i64 (N + 1) (by omega) (by omega) w
    simpa using this
  have hN' := Lib.hid hN
  have z0 : (N : Int) ≤ 64 := by omega
  clear hN
  go_enter Tryd.func67, Tryd.ntmps67
  go_upto_region 2 with fail
  have RM := Lib.hid (World.rowIs_made w (.int .i64 0) (N + 1) 3)
  have BA := Lib.hid (show Below w.heap.size w (w.alloc (.cells (madeCells #[.int .i64 0] (N + 1)) 3)) from (Below.refl _ w).alloc (Nat.le_refl _) _)
  generalize w.alloc (.cells (madeCells #[.int .i64 0] (N + 1)) 3) = V at *
  obtain ⟨g, hg⟩ : ∃ g, w.heap.size = g := ⟨_, rfl⟩
  rw [hg] at RM BA ⊢
  have c0 := RM.out.cell (i := 0) (by omega)
  have f0 := RM.out.frozen 0
  have RS := Lib.hid (show (V.setCell ⟨g, 0, none⟩ (.int .i64 1)).rowIs g 3 (N + 1) (fun j => .int .i64 (ch 0 j : Nat)) from (RM.out.set 0 (.int .i64 1)).congr fun i _ => by cases i <;> rfl)
  have BS := Lib.hid (BA.out.setCell (p := ⟨g, 0, none⟩) (Nat.le_refl _) (.int .i64 1))
  clear hmk RM
  go_wp2_with fail
  clear c0 f0
  go_loopw [4, 5] (fun s4 _ wr => ∃ m : Nat, 1 ≤ m ∧ m ≤ N + 1 ∧ s4 = .int .i64 m ∧ wr.rowIs g 3 (N + 1) (fun j => .int .i64 ((ch (m - 1) j : Nat))) ∧ Below g w wr) (fun s4 _ _ => N + 1 - (intOf s4).toNat)
  case atStart => exact ⟨1, by omega, by omega, rfl, RS.out, BS.out⟩
  case round =>
    obtain ⟨m, h1, h2, rfl, hr, hb⟩ := hrel
    have RR := Lib.hid hr
    have BB := Lib.hid hb
    clear hr hb RS BS BA
    by_cases hm : m ≤ N
    · have y1 : (m : Int) ≤ (N : Int) := by omega
      go_wp2_with fail
      go_loopw [5] (fun s5 wq => ∃ k : Nat, k ≤ m ∧ s5 = .int .i64 k ∧ wq.rowIs g 3 (N + 1) (fun j => .int .i64 (((if k < j then ch m j else ch (m - 1) j : Nat) : Int))) ∧ Below g w wq) (fun s5 _ => (intOf s5).toNat)
      case atStart => exact ⟨m, by omega, rfl, RR.out.congr fun i hi => by by_cases h : m < i; (rw [if_pos h, ch_gt (m - 1) i (by omega), ch_gt m i h]); (rw [if_neg h]), BB.out⟩
      case round =>
        obtain ⟨k, hk, rfl, hr, hb⟩ := hrel
        have RR := Lib.hid hr
        have BB := Lib.hid hb
        clear hr hb
        by_cases hk0 : 0 < k
        · have y2 : (0 : Int) < (k : Int) := by omega
          go_wp2_with fail
          clear y2
          obtain ⟨k, rfl⟩ : ∃ k', k = k' + 1 := ⟨k - 1, by omega⟩
          clear hk0
          obtain ⟨p, hp⟩ : ∃ p, m = p + 1 := ⟨m - 1, by omega⟩
          have HP := Lib.hid hp
          rw [show m - 1 = p by omega] at RR
          clear hp
          have e0 := RR.out.cell (i := k + 1) (by omega)
          have e1 := RR.out.cell (i := k) (by omega)
          have fz := RR.out.frozen (k + 1)
          rw [if_neg (by omega)] at e0 e1
          have w1 : (0 : Int) ≤ (k : Int) + 1 := by omega
          have w6 : k < N := by omega
          have w10 : IntKind.i64.wrap (k : Int) = (k : Int) := wrap63 rfl (by omega)
          have w7 : k < N + 1 := by omega
          have w8 : (k : Int) < (N : Int) + 1 := by omega
          have w9 : (k : Int) + 1 < (N : Int) + 1 := by omega
          have w2 : ((k + 1 : Nat) : Int) < ((N + 1 : Nat) : Int) := by omega
          have w3 : ((k + 1 : Nat) : Int) - 1 = (k : Int) := by omega
          have w4 : (0 : Int) ≤ (k : Int) := by omega
          have w5 : (k : Int) < ((N + 1 : Nat) : Int) := by omega
          have WR := Lib.hid (show IntKind.i64.wrap (((ch p (k + 1) : Nat) : Int) + ((ch p k : Nat) : Int)) = ((ch m (k + 1) : Nat) : Int) from wrap63 (by rw [HP.out, ch_succ]; omega) (by have := ch_lt (n := m) (by have := hN'.out; omega) (k + 1); omega))
          refine wp_region_held_drew (S := fun (wx : World) => wx.cell? ⟨g, k, none⟩ = some (.int .i64 ((ch p k : Nat) : Int))) (by kernel_rfl) e1 (fun hHeld => ?_)
          have E0 := Lib.hid (show wr.drew.cell? ⟨g, k + 1, none⟩ = _ from e0)
          have FZ := Lib.hid (show wr.drew.frozen? ⟨g, k + 1, none⟩ = false from fz)
          replace RR := Lib.hid RR.out.drew
          replace BB := Lib.hid BB.out.drew
          clear e0 e1 fz
          generalize wr.drew = V9 at *
          refine wpAnyH_take (i := 0) (oi := { dst := some 21, op := Op.move (Operand.tmp 3), type := 23, pos := "count.go:34", after := #[], guard := none }) (v := ?vn1k0) rfl (by kernel_rfl) (by kernel_rfl) (by kernel_rfl) (fun _ _ _ h => h) (Or.inl ⟨by kernel_rfl, ?yn1k0⟩) (by assumption) ?rn1k0
          case yn1k0 => intro w hSw; (try dsimp only at hSw); go_simp; try with_reducible rfl
          try simp only [Act.put, List.setIfInBounds_toArray, List.set_cons_zero, List.set_cons_succ]
          refine wpAnyH_take (i := 1) (oi := { dst := some 22, op := Op.move (Operand.tmp 5), type := 3, pos := "count.go:34", after := #[], guard := none }) (v := ?vn2k1) rfl (by kernel_rfl) (by kernel_rfl) (by kernel_rfl) (fun _ _ _ h => h) (Or.inl ⟨by kernel_rfl, ?yn2k1⟩) (by assumption) ?rn2k1
          case yn2k1 => intro w hSw; (try dsimp only at hSw); go_simp; try with_reducible rfl
          try simp only [Act.put, List.setIfInBounds_toArray, List.set_cons_zero, List.set_cons_succ]
          refine wpAnyH_take (i := 2) (oi := { dst := some 23, op := Op.indexAddr 23 (Operand.tmp 21) (Operand.tmp 22), type := 0, pos := "count.go:34", after := #[{ on := 0, ground := Ground.data }, { on := 1, ground := Ground.data }], guard := none }) (v := ?vn3k2) rfl (by kernel_rfl) (by kernel_rfl) (by kernel_rfl) (fun _ _ _ h => h) (Or.inl ⟨by kernel_rfl, ?yn3k2⟩) (by assumption) ?rn3k2
          case yn3k2 => intro w hSw; (try dsimp only at hSw); go_simp; try with_reducible rfl
          try simp only [Act.put, List.setIfInBounds_toArray, List.set_cons_zero, List.set_cons_succ]
          refine wpAnyH_take (i := 4) (oi := { dst := some 25, op := Op.move (Operand.tmp 3), type := 23, pos := "count.go:34", after := #[], guard := none }) (v := ?vn4k4) rfl (by kernel_rfl) (by kernel_rfl) (by kernel_rfl) (fun _ _ _ h => h) (Or.inl ⟨by kernel_rfl, ?yn4k4⟩) (by assumption) ?rn4k4
          case yn4k4 => intro w hSw; (try dsimp only at hSw); go_simp; try with_reducible rfl
          try simp only [Act.put, List.setIfInBounds_toArray, List.set_cons_zero, List.set_cons_succ]
          refine wpAnyH_take (i := 5) (oi := { dst := some 26, op := Op.move (Operand.tmp 5), type := 3, pos := "count.go:34", after := #[], guard := none }) (v := ?vn5k5) rfl (by kernel_rfl) (by kernel_rfl) (by kernel_rfl) (fun _ _ _ h => h) (Or.inl ⟨by kernel_rfl, ?yn5k5⟩) (by assumption) ?rn5k5
          case yn5k5 => intro w hSw; (try dsimp only at hSw); go_simp; try with_reducible rfl
          try simp only [Act.put, List.setIfInBounds_toArray, List.set_cons_zero, List.set_cons_succ]
          refine wpAnyH_take (i := 6) (oi := { dst := some 27, op := Op.binOp BinOp.sub 3 (Operand.tmp 26) (Operand.const (Value.int IntKind.i64 1)) 3, type := 3, pos := "count.go:34", after := #[{ on := 5, ground := Ground.data }], guard := none }) (v := ?vn6k6) rfl (by kernel_rfl) (by kernel_rfl) (by kernel_rfl) (fun _ _ _ h => h) (Or.inl ⟨by kernel_rfl, ?yn6k6⟩) (by assumption) ?rn6k6
          case yn6k6 => intro w hSw; (try dsimp only at hSw); go_simp; try with_reducible rfl
          try simp only [Act.put, List.setIfInBounds_toArray, List.set_cons_zero, List.set_cons_succ]
          refine wpAnyH_take (i := 7) (oi := { dst := some 28, op := Op.indexAddr 23 (Operand.tmp 25) (Operand.tmp 27), type := 0, pos := "count.go:34", after := #[{ on := 4, ground := Ground.data }, { on := 6, ground := Ground.data }], guard := none }) (v := ?vn7k7) rfl (by kernel_rfl) (by kernel_rfl) (by kernel_rfl) (fun _ _ _ h => h) (Or.inl ⟨by kernel_rfl, ?yn7k7⟩) (by assumption) ?rn7k7
          case yn7k7 => intro w hSw; (try dsimp only at hSw); go_simp; try with_reducible rfl
          try simp only [Act.put, List.setIfInBounds_toArray, List.set_cons_zero, List.set_cons_succ]
          refine wpAnyH_take (i := 8) (oi := { dst := some 29, op := Op.load 3 (Operand.tmp 28), type := 3, pos := "count.go:34", after := #[{ on := 7, ground := Ground.data }], guard := none }) (v := ?vn8k8) rfl (by kernel_rfl) (by kernel_rfl) (by kernel_rfl) (fun _ _ _ h => h) (Or.inl ⟨by kernel_rfl, ?yn8k8⟩) (by assumption) ?rn8k8
          case yn8k8 => intro w hSw; (try dsimp only at hSw); go_simp; try with_reducible rfl
          try simp only [Act.put, List.setIfInBounds_toArray, List.set_cons_zero, List.set_cons_succ]
          refine wpAnyH_ready (rs := [3]) (by kernel_rfl) (by simp) (AllReadyH.cons (o := { dst := some 24, op := Op.load 3 (Operand.tmp 23), type := 3, pos := "count.go:34", after := #[{ on := 2, ground := Ground.data }], guard := none }) rfl (fun K hK => ?_) AllReadyH.nil)
          have e0 := E0.out
          go_simp
          clear e0
          refine hK.out _ _ hHeld (fun hHeld => ?_)
          clear hK K
          try simp only [Act.put, List.setIfInBounds_toArray, List.set_cons_zero, List.set_cons_succ]
          refine wpAnyH_take (i := 9) (oi := { dst := some 30, op := Op.binOp BinOp.add 3 (Operand.tmp 24) (Operand.tmp 29) 3, type := 3, pos := "count.go:34", after := #[{ on := 3, ground := Ground.data }, { on := 8, ground := Ground.data }], guard := none }) (v := ?vn9k9) rfl (by kernel_rfl) (by kernel_rfl) (by kernel_rfl) (fun _ _ _ h => h) (Or.inl ⟨by kernel_rfl, ?yn9k9⟩) (by assumption) ?rn9k9
          case yn9k9 => intro w hSw; (try dsimp only at hSw); go_simp; try with_reducible rfl
          try simp only [Act.put, List.setIfInBounds_toArray, List.set_cons_zero, List.set_cons_succ]
          refine wpAnyH_take (i := 10) (oi := { dst := some 31, op := Op.indexAddr 23 (Operand.tmp 21) (Operand.tmp 22), type := 0, pos := "count.go:34", after := #[{ on := 0, ground := Ground.data }, { on := 1, ground := Ground.data }, { on := 0, ground := Ground.phase }, { on := 1, ground := Ground.phase }, { on := 2, ground := Ground.phase }, { on := 3, ground := Ground.phase }, { on := 4, ground := Ground.phase }, { on := 5, ground := Ground.phase }, { on := 6, ground := Ground.phase }, { on := 7, ground := Ground.phase }, { on := 8, ground := Ground.phase }, { on := 9, ground := Ground.phase }], guard := none }) (v := ?vn10k10) rfl (by kernel_rfl) (by kernel_rfl) (by kernel_rfl) (fun _ _ _ h => h) (Or.inl ⟨by kernel_rfl, ?yn10k10⟩) (by assumption) ?rn10k10
          case yn10k10 => intro w hSw; (try dsimp only at hSw); go_simp; try with_reducible rfl
          try simp only [Act.put, List.setIfInBounds_toArray, List.set_cons_zero, List.set_cons_succ]
          refine wpAnyH_ready (rs := [11]) (by kernel_rfl) (by simp) (AllReadyH.cons (o := { dst := none, op := Op.store 3 (Operand.tmp 31) (Operand.tmp 30), type := 0, pos := "count.go:34", after := #[{ on := 10, ground := Ground.data }, { on := 9, ground := Ground.data }, { on := 0, ground := Ground.phase }, { on := 1, ground := Ground.phase }, { on := 2, ground := Ground.phase }, { on := 3, ground := Ground.phase }, { on := 4, ground := Ground.phase }, { on := 5, ground := Ground.phase }, { on := 6, ground := Ground.phase }, { on := 7, ground := Ground.phase }, { on := 8, ground := Ground.phase }, { on := 9, ground := Ground.phase }], guard := none }) rfl (fun K hK => ?_) AllReadyH.nil)
          have e0 := E0.out
          have f0 := FZ.out
          go_simp
          clear e0 f0
          rw [WR.out]
          have hS := (RR.out.set (k + 1) (.int .i64 ((ch m (k + 1) : Nat) : Int))).cell (i := k) (by omega)
          rw [if_neg (by omega), if_neg (by omega)] at hS
          refine hK.out _ _ hS (fun _ => ?_)
          clear hK K
          refine wpAnyH_done (by kernel_rfl) ?_ _
          go_wp2_with fail
          go_roundw
          case rel => exact ⟨k, by omega, by go_num, (RR.out.set (k + 1) (.int .i64 ((ch m (k + 1) : Nat) : Int))).congr fun i hi => (by rw [show m - 1 = p by have := HP.out; omega]; by_cases h : i = k + 1; (rw [if_pos h, h, if_pos (by omega)]); (rw [if_neg h]; by_cases h3 : k + 1 < i; (rw [if_pos h3, if_pos (by omega)]); (rw [if_neg h3, if_neg (by omega)]))), BB.out.setCell (p := ⟨g, k + 1, none⟩) (Nat.le_refl _) _⟩
          case measure => first | (simp [intOf]; done) | (simp [intOf]; omega)
        · obtain rfl : k = 0 := by omega
          have y2 : ¬ (0 : Int) < ((0 : Nat) : Int) := by omega
          go_wp2_with fail
          go_roundw
          case rel => exact ⟨m + 1, by omega, by omega, by go_num, RR.out.congr fun i hi => (by cases i with | zero => rw [if_neg (by omega), ch_zero, ch_zero] | succ i => rw [if_pos (by omega), Nat.add_sub_cancel]), BB.out⟩
          case measure => simp [intOf]; omega
    · have y1 : ¬ (m : Int) ≤ (N : Int) := by omega
      obtain rfl : m = N + 1 := by omega
      clear h1 h2 hm
      go_wp2_with fail
      go_ret
      exact ⟨g, rfl, by omega, RR.out.congr fun i hi => (by rw [Nat.add_sub_cancel]), BB.out⟩
end Go.Proofs.YtgjphbkaonaneaaDoor
