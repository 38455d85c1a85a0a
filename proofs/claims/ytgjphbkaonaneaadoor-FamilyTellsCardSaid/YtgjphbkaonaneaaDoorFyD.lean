/-
  The law FamilyTells where the first family is not valid.
-/
import Derived.Deep.RegionHeld
import Derived.Deep.CutRange
import Derived.Test.YtgjphbkaonaneaaDoorFyC
namespace Go.Proofs.YtgjphbkaonaneaaDoor
set_option linter.unusedSimpArgs false
open Go Go.RowKit Go.Shelf Go.Ev

set_option maxRecDepth 100000 in
set_option maxHeartbeats 32000000 in
theorem FamilyTells_bad (lo hi : List Int) (mn mx : Int) (A B : Option Addr) (c1 c2 : Nat) (lo' hi' : List Int) (mn' mx' : Int) (A' B' : Option Addr) (c1' c2' : Nat) (s : List Int) (C : Option Addr) (c3 : Nat) (w : World) (ha : Ints w A lo) (hb : Ints w B hi) (ha' : Ints w A' lo') (hb' : Ints w B' hi') (hs : Ints w C s) (hT : TabIn w) (hl : lightB lo.length hi.length lo'.length hi'.length = true) (h100 : s.length ≤ 100) (hV : validFB lo hi mn mx = false) :
    Calls Tryd.prog 4 #[.agg #[.slice A lo.length c1, .slice B hi.length c2, .int .i64 mn, .int .i64 mx], .agg #[.slice A' lo'.length c1', .slice B' hi'.length c2', .int .i64 mn', .int .i64 mx'], .slice C s.length c3] w fun e w' => e = .returned (.bool true) ∧ Below w.heap.size w w' := by
  have hw0 := hT.lt
  have AW := Lib.hid (fun w1 (h : Below w.heap.size w w1) => fawake_any w1 (hT.below h hw0))
  have LT := Lib.hid (fun w1 b h => light2_any lo.length hi.length lo'.length hi'.length A B A' B' c1 c2 c1' c2' mn mx mn' mx' b w1 h)
  rw [hl] at LT
  have NP := Lib.hid (fun w1 (h : Below w.heap.size w w1) => Normal_p_res lo hi mn mx A B c1 c2 w1 (ha.over h) (hb.over h) (hT.below h hw0))
  have NR := Lib.hid (fun w1 (h : Below w.heap.size w w1) => Normal_r_any lo hi mn mx A B c1 c2 w1 (ha.over h) (hb.over h))
  have CP := Lib.hid (fun w1 (h : Below w.heap.size w w1) => (Count_p_any lo hi mn mx A B c1 c2 w1 (ha.over h) (hb.over h)).mono fun e w' k => CntRes.two k)
  have CR := Lib.hid (fun w1 (h : Below w.heap.size w w1) => (Count_r_any lo hi mn mx A B c1 c2 w1 (ha.over h) (hb.over h)).mono fun e w' k => CntRes.two k)
  have VP := Lib.hid (fun w1 (h : Below w.heap.size w w1) => FValid_p_any lo hi mn mx A B c1 c2 w1 (ha.over h) (hb.over h))
  have VR := Lib.hid (fun w1 (h : Below w.heap.size w w1) => FValid_r_any lo hi mn mx A B c1 c2 w1 (ha.over h) (hb.over h))
  have FP := Lib.hid (fun w1 (h : Below w.heap.size w w1) => Fixed_p_any lo hi mn mx A B c1 c2 w1 (ha.over h) (hb.over h))
  have FR := Lib.hid (fun w1 (h : Below w.heap.size w w1) => Fixed_r_any lo hi mn mx A B c1 c2 w1 (ha.over h) (hb.over h))
  have HP := Lib.hid (fun w1 (h : Below w.heap.size w w1) => Has_fp_any lo hi mn mx s A B C c1 c2 c3 w1 (ha.over h) (hb.over h) (hs.over h))
  have HR := Lib.hid (fun w1 (h : Below w.heap.size w w1) => Has_fr_any lo hi mn mx s A B C c1 c2 c3 w1 (ha.over h) (hb.over h) (hs.over h))
  have HG := Lib.hid (fun w1 (h : Below w.heap.size w w1) => Has_fp_any lo' hi' mn' mx' s A' B' C c1' c2' c3 w1 (ha'.over h) (hb'.over h) (hs.over h))
  have MP := Lib.hid (fun w1 (h : Below w.heap.size w w1) => Meet_p_any lo hi mn mx A B c1 c2 lo' hi' mn' mx' A' B' c1' c2' w1 (ha.over h) (hb.over h) (ha'.over h) (hb'.over h) (hT.below h hw0))
  have MR := Lib.hid (fun w1 (h : Below w.heap.size w w1) => Meet_r_any lo hi mn mx A B c1 c2 lo' hi' mn' mx' A' B' c1' c2' w1 (ha.over h) (hb.over h) (ha'.over h) (hb'.over h))
  rw [hV] at NP NR VP VR MP MR CP CR
  rw [Bool.false_and] at MP MR
  have NP := Lib.hid (fun w1 h => (NP.out w1 h).mono fun e w' k => MeetRes.bad k)
  have NR := Lib.hid (fun w1 h => (NR.out w1 h).mono fun e w' k => MeetRes.bad k)
  have MP := Lib.hid (fun w1 h => (MP.out w1 h).mono fun e w' k => MeetRes.bad k)
  have MR := Lib.hid (fun w1 h => (MR.out w1 h).mono fun e w' k => MeetRes.bad k)
  generalize cnO false (cntN (setN lo) (setN hi) mn mx) = cn at *
  generalize ceO false (cntN (setN lo) (setN hi) mn mx) = ce at *
  generalize hasFB lo hi mn mx s = HF at *
  generalize (validFB lo hi mn mx && decide (lo = hi)) = FX at *
  clear ha hb ha' hb' hs hT hl hV
  have hn3 := Lib.hid h100
  clear h100
  generalize lo.length = n1 at *
  generalize hi.length = n2 at *
  generalize lo'.length = n1' at *
  generalize hi'.length = n2' at *
  generalize s.length = n3 at *
  have y1 : ¬ (100 : Int) < (n3 : Int) := by have := hn3.out; omega
  have ST := Lib.hid (show Stt w [(w.heap.size + 1, (.cells #[.slice A' n1' c1', .slice B' n2' c2', .int .i64 mn', .int .i64 mx'] 37)), (w.heap.size, (.cells #[.slice A n1 c1, .slice B n2 c2, .int .i64 mn, .int .i64 mx] 37))] ((w.alloc (.cells #[.slice A n1 c1, .slice B n2 c2, .int .i64 mn, .int .i64 mx] 37)).alloc (.cells #[.slice A' n1' c1', .slice B' n2' c2', .int .i64 mn', .int .i64 mx'] 37)) from Stt.put' (Stt.put (Stt.start w) (.cells #[.slice A n1 c1, .slice B n2 c2, .int .i64 mn, .int .i64 mx] 37)) (.cells #[.slice A' n1' c1', .slice B' n2' c2', .int .i64 mn', .int .i64 mx'] 37) _ (by simp))
  go_enter Tryd.func4, Tryd.ntmps4
  go_upto_region 1 with fail
  generalize ((w.alloc (.cells #[.slice A n1 c1, .slice B n2 c2, .int .i64 mn, .int .i64 mx] 37)).alloc (.cells #[.slice A' n1' c1', .slice B' n2' c2', .int .i64 mn', .int .i64 mx'] 37)) = W0 at *
  obtain ⟨x0, x1, x2, x3⟩ := fam4 (ST.out.nth 1 rfl)
  obtain ⟨g0, g1, g2, g3⟩ := fam4 (ST.out.nth 0 rfl)
  go_upto_region 3 with (go_at_call 25; clear x0 x1 x2 x3 g0 g1 g2 g3; refine (LT.out _ _ (heap_alloc_new _ _)).mono ?_; rintro e y2 ⟨rfl, hb⟩; replace ST := Lib.hid (Stt.drop ((ST.out.put _).step hb)); obtain ⟨x0, x1, x2, x3⟩ := fam4 (ST.out.nth 1 rfl); clear hb LT)
  go_upto_region 4 with (go_at_call 27; clear x0 x1 x2 x3; refine (NP.out _ ST.out.1).mono ?_; rintro e y3 ⟨rfl, hb⟩; replace ST := Lib.hid (ST.out.step hb); clear hb NP)
  have hb := (Below.refl y3.heap.size y3).alloc (Nat.le_refl _) (.cells #[.slice none 0 0, .slice none 0 0, .int .i64 0, .int .i64 0] 37)
  replace ST := Lib.hid (ST.out.put (.cells #[.slice none 0 0, .slice none 0 0, .int .i64 0, .int .i64 0] 37))
  clear hb
  generalize y3.alloc (.cells #[.slice none 0 0, .slice none 0 0, .int .i64 0, .int .i64 0] 37) = V3 at *
  generalize y3.heap.size = ga at *
  obtain ⟨x0, x1, x2, x3⟩ := fam4 (ST.out.nth 2 rfl)
  go_upto_region 5 with (go_at_call 28; clear x0 x1 x2 x3; refine (NR.out _ ST.out.1).mono ?_; rintro e y4 ⟨rfl, hb⟩; replace ST := Lib.hid (ST.out.step hb); clear hb NR)
  have hb := (Below.refl y4.heap.size y4).alloc (Nat.le_refl _) (.cells #[.slice none 0 0, .slice none 0 0, .int .i64 0, .int .i64 0] 37)
  replace ST := Lib.hid (ST.out.put (.cells #[.slice none 0 0, .slice none 0 0, .int .i64 0, .int .i64 0] 37))
  clear hb
  generalize y4.alloc (.cells #[.slice none 0 0, .slice none 0 0, .int .i64 0, .int .i64 0] 37) = V4 at *
  generalize y4.heap.size = gb at *
  obtain ⟨a0, a1, a2, a3⟩ := fam4 (ST.out.nth 1 rfl)
  obtain ⟨b0, b1, b2, b3⟩ := fam4 (ST.out.nth 0 rfl)
  go_upto_region 7 with (go_at_call 30; clear a0 a1 a2 a3 b0 b1 b2 b3; refine (zero_true _).mono ?_; rintro e y5 ⟨rfl, hb⟩; replace ST := Lib.hid (ST.out.step hb); clear hb)
  obtain ⟨x0, x1, x2, x3⟩ := fam4 (ST.out.nth 3 rfl)
  go_upto_region 9 with (first | (go_at_call 31; clear x0 x1 x2 x3; refine (CP.out _ ST.out.1).mono ?_; rintro e y6 ⟨rfl, hb⟩; replace ST := Lib.hid (ST.out.step hb); clear hb CP; obtain ⟨x0, x1, x2, x3⟩ := fam4 (ST.out.nth 3 rfl)) | (go_at_call 32; clear x0 x1 x2 x3; refine (CR.out _ ST.out.1).mono ?_; rintro e y7 ⟨rfl, hb⟩; replace ST := Lib.hid (ST.out.step hb); clear hb CR; obtain ⟨x0, x1, x2, x3⟩ := fam4 (ST.out.nth 3 rfl)))
  clear x0 x1 x2 x3
  refine wp_region_held_drew (S := fun (wx : World) => wx.cell? ⟨w.heap.size, 0, none⟩ = some (.slice A n1 c1) ∧ wx.cell? ⟨w.heap.size, 1, none⟩ = some (.slice B n2 c2) ∧ wx.cell? ⟨w.heap.size, 2, none⟩ = some (.int .i64 mn) ∧ wx.cell? ⟨w.heap.size, 3, none⟩ = some (.int .i64 mx)) (by kernel_rfl) (fam4 (ST.out.nth 3 rfl)) (fun hHeld => ?_)
  replace ST := Lib.hid ST.out.drew
  generalize y7.drew = y7d at *
  refine wpAnyH_take (i := 0) (oi := { dst := some 70, op := Op.move (Operand.tmp 11), type := 3, pos := "law.go:66", after := #[], guard := none }) (v := ?vn1k0) rfl (by kernel_rfl) (by kernel_rfl) (by kernel_rfl) (fun _ _ _ h => h) (Or.inl ⟨by kernel_rfl, ?yn1k0⟩) (by assumption) ?rn1k0
  case yn1k0 => intro w hSw; (try dsimp only at hSw); go_simp; try with_reducible rfl
  try simp only [Act.put, List.setIfInBounds_toArray, List.set_cons_zero, List.set_cons_succ]
  refine wpAnyH_take (i := 1) (oi := { dst := some 71, op := Op.move (Operand.tmp 13), type := 3, pos := "law.go:66", after := #[], guard := none }) (v := ?vn2k1) rfl (by kernel_rfl) (by kernel_rfl) (by kernel_rfl) (fun _ _ _ h => h) (Or.inl ⟨by kernel_rfl, ?yn2k1⟩) (by assumption) ?rn2k1
  case yn2k1 => intro w hSw; (try dsimp only at hSw); go_simp; try with_reducible rfl
  try simp only [Act.put, List.setIfInBounds_toArray, List.set_cons_zero, List.set_cons_succ]
  refine wpAnyH_take (i := 2) (oi := { dst := some 72, op := Op.binOp BinOp.neq 3 (Operand.tmp 70) (Operand.tmp 71) 3, type := 4, pos := "law.go:66", after := #[{ on := 0, ground := Ground.data }, { on := 1, ground := Ground.data }], guard := none }) (v := ?vn3k2) rfl (by kernel_rfl) (by kernel_rfl) (by kernel_rfl) (fun _ _ _ h => h) (Or.inl ⟨by kernel_rfl, ?yn3k2⟩) (by assumption) ?rn3k2
  case yn3k2 => intro w hSw; (try dsimp only at hSw); go_simp; try with_reducible rfl
  try simp only [Act.put, List.setIfInBounds_toArray, List.set_cons_zero, List.set_cons_succ]
  refine wpAnyH_take (i := 3) (oi := { dst := some 73, op := Op.move (Operand.tmp 72), type := 4, pos := "law.go:66", after := #[{ on := 2, ground := Ground.data }], guard := none }) (v := ?vn4k3) rfl (by kernel_rfl) (by kernel_rfl) (by kernel_rfl) (fun _ _ _ h => h) (Or.inl ⟨by kernel_rfl, ?yn4k3⟩) (by assumption) ?rn4k3
  case yn4k3 => intro w hSw; (try dsimp only at hSw); go_simp; try with_reducible rfl
  try simp only [Act.put, List.setIfInBounds_toArray, List.set_cons_zero, List.set_cons_succ]
  refine wpAnyH_take (i := 4) (oi := { dst := some 74, op := Op.move (Operand.tmp 12), type := 25, pos := "law.go:66", after := #[{ on := 3, ground := Ground.guard }], guard := some (3, false) }) (v := ?vn5k4) rfl (by kernel_rfl) (by kernel_rfl) (by kernel_rfl) (fun _ _ _ h => h) (Or.inl ⟨by kernel_rfl, ?yn5k4⟩) (by assumption) ?rn5k4
  case yn5k4 => intro w hSw; (try dsimp only at hSw); go_simp; try with_reducible rfl
  try simp only [Act.put, List.setIfInBounds_toArray, List.set_cons_zero, List.set_cons_succ]
  refine wpAnyH_take (i := 5) (oi := { dst := some 75, op := Op.move (Operand.tmp 14), type := 25, pos := "law.go:66", after := #[{ on := 3, ground := Ground.guard }], guard := some (3, false) }) (v := ?vn6k5) rfl (by kernel_rfl) (by kernel_rfl) (by kernel_rfl) (fun _ _ _ h => h) (Or.inl ⟨by kernel_rfl, ?yn6k5⟩) (by assumption) ?rn6k5
  case yn6k5 => intro w hSw; (try dsimp only at hSw); go_simp; try with_reducible rfl
  try simp only [Act.put, List.setIfInBounds_toArray, List.set_cons_zero, List.set_cons_succ]
  refine wpAnyH_take (i := 6) (oi := { dst := some 76, op := Op.binOp BinOp.neq 25 (Operand.tmp 74) (Operand.tmp 75) 25, type := 4, pos := "law.go:66", after := #[{ on := 4, ground := Ground.data }, { on := 5, ground := Ground.data }, { on := 3, ground := Ground.guard }], guard := some (3, false) }) (v := ?vn7k6) rfl (by kernel_rfl) (by kernel_rfl) (by kernel_rfl) (fun _ _ _ h => h) (Or.inl ⟨by kernel_rfl, ?yn7k6⟩) (by assumption) ?rn7k6
  case yn7k6 => intro w hSw; (try dsimp only at hSw); go_simp; try with_reducible rfl
  try simp only [Act.put, List.setIfInBounds_toArray, List.set_cons_zero, List.set_cons_succ]
  refine wpAnyH_take (i := 7) (oi := { dst := some 77, op := Op.pick (Operand.tmp 73) (Operand.const (Value.bool true)) (Operand.tmp 76), type := 4, pos := "law.go:66", after := #[{ on := 3, ground := Ground.data }, { on := 6, ground := Ground.data }], guard := none }) (v := ?vn8k7) rfl (by kernel_rfl) (by kernel_rfl) (by kernel_rfl) (fun _ _ _ h => h) (Or.inl ⟨by kernel_rfl, ?yn8k7⟩) (by assumption) ?rn8k7
  case yn8k7 => intro w hSw; (try dsimp only at hSw); go_simp; try with_reducible rfl
  try simp only [Act.put, List.setIfInBounds_toArray, List.set_cons_zero, List.set_cons_succ]
  refine wpAnyH_take (i := 8) (oi := { dst := some 78, op := Op.move (Operand.tmp 77), type := 4, pos := "law.go:66", after := #[{ on := 7, ground := Ground.data }, { on := 3, ground := Ground.chain }], guard := none }) (v := ?vn9k8) rfl (by kernel_rfl) (by kernel_rfl) (by kernel_rfl) (fun _ _ _ h => h) (Or.inl ⟨by kernel_rfl, ?yn9k8⟩) (by assumption) ?rn9k8
  case yn9k8 => intro w hSw; (try dsimp only at hSw); go_simp; try with_reducible rfl
  try simp only [Act.put, List.setIfInBounds_toArray, List.set_cons_zero, List.set_cons_succ]
  refine wpAnyH_take (i := 9) (oi := { dst := some 79, op := Op.load 37 (Operand.tmp 3), type := 37, pos := "law.go:66", after := #[{ on := 8, ground := Ground.guard }], guard := some (8, false) }) (v := ?vn10k9) rfl (by kernel_rfl) (by kernel_rfl) (by kernel_rfl) (fun _ _ _ h => h) (Or.inl ⟨by kernel_rfl, ?yn10k9⟩) (by assumption) ?rn10k9
  case yn10k9 => intro w hSw; (try dsimp only at hSw); go_simp; try with_reducible rfl
  try simp only [Act.put, List.setIfInBounds_toArray, List.set_cons_zero, List.set_cons_succ]
  refine wpAnyH_take (i := 11) (oi := { dst := some 81, op := Op.load 37 (Operand.tmp 3), type := 37, pos := "law.go:66", after := #[{ on := 8, ground := Ground.guard }], guard := some (8, false) }) (v := ?vn11k11) rfl (by kernel_rfl) (by kernel_rfl) (by kernel_rfl) (fun _ _ _ h => h) (Or.inl ⟨by kernel_rfl, ?yn11k11⟩) (by assumption) ?rn11k11
  case yn11k11 => intro w hSw; (try dsimp only at hSw); go_simp; try with_reducible rfl
  try simp only [Act.put, List.setIfInBounds_toArray, List.set_cons_zero, List.set_cons_succ]
  refine wpAnyH_ready (rs := [10]) (by kernel_rfl) (by simp) (AllReadyH.cons (o := { dst := some 80, op := Op.call { callee := Callee.value (Operand.func 33), args := #[Operand.tmp 79], argTypes := #[37] }, type := 4, pos := "law.go:66", after := #[{ on := 9, ground := Ground.data }, { on := 8, ground := Ground.chain }, { on := 8, ground := Ground.guard }], guard := some (8, false) }) rfl (fun KK hK => ?_) AllReadyH.nil)
  go_simp
  refine (VP.out _ ST.out.1).mono ?_
  rintro e z10 ⟨rfl, hb⟩
  replace ST := Lib.hid (ST.out.step hb)
  clear hb hHeld
  refine hK.out _ _ (fam4 (ST.out.nth 3 rfl)) (fun hHeld => ?_)
  clear hK KK
  try simp only [Act.put, List.setIfInBounds_toArray, List.set_cons_zero, List.set_cons_succ]
  refine wpAnyH_ready (rs := [12]) (by kernel_rfl) (by simp) (AllReadyH.cons (o := { dst := some 82, op := Op.call { callee := Callee.value (Operand.func 34), args := #[Operand.tmp 81], argTypes := #[37] }, type := 4, pos := "law.go:66", after := #[{ on := 11, ground := Ground.data }, { on := 10, ground := Ground.chain }, { on := 8, ground := Ground.guard }], guard := some (8, false) }) rfl (fun KK hK => ?_) AllReadyH.nil)
  go_simp
  refine (VR.out _ ST.out.1).mono ?_
  rintro e z12 ⟨rfl, hb⟩
  replace ST := Lib.hid (ST.out.step hb)
  clear hb hHeld
  refine hK.out _ _ (fam4 (ST.out.nth 3 rfl)) (fun hHeld => ?_)
  clear hK KK
  try simp only [Act.put, List.setIfInBounds_toArray, List.set_cons_zero, List.set_cons_succ]
  refine wpAnyH_take (i := 13) (oi := { dst := some 83, op := Op.binOp BinOp.neq 4 (Operand.tmp 80) (Operand.tmp 82) 4, type := 4, pos := "law.go:66", after := #[{ on := 10, ground := Ground.data }, { on := 12, ground := Ground.data }, { on := 8, ground := Ground.guard }], guard := some (8, false) }) (v := ?vn12k13) rfl (by kernel_rfl) (by kernel_rfl) (by kernel_rfl) (fun _ _ _ h => h) (Or.inl ⟨by kernel_rfl, ?yn12k13⟩) (by assumption) ?rn12k13
  case yn12k13 => intro w hSw; (try dsimp only at hSw); go_simp; try with_reducible rfl
  try simp only [Act.put, List.setIfInBounds_toArray, List.set_cons_zero, List.set_cons_succ]
  refine wpAnyH_take (i := 14) (oi := { dst := some 84, op := Op.pick (Operand.tmp 78) (Operand.const (Value.bool true)) (Operand.tmp 83), type := 4, pos := "law.go:66", after := #[{ on := 8, ground := Ground.data }, { on := 13, ground := Ground.data }], guard := none }) (v := ?vn13k14) rfl (by kernel_rfl) (by kernel_rfl) (by kernel_rfl) (fun _ _ _ h => h) (Or.inl ⟨by kernel_rfl, ?yn13k14⟩) (by assumption) ?rn13k14
  case yn13k14 => intro w hSw; (try dsimp only at hSw); go_simp; try with_reducible rfl
  try simp only [Act.put, List.setIfInBounds_toArray, List.set_cons_zero, List.set_cons_succ]
  refine wpAnyH_take (i := 15) (oi := { dst := some 85, op := Op.move (Operand.tmp 84), type := 4, pos := "law.go:66", after := #[{ on := 14, ground := Ground.data }, { on := 12, ground := Ground.chain }], guard := none }) (v := ?vn14k15) rfl (by kernel_rfl) (by kernel_rfl) (by kernel_rfl) (fun _ _ _ h => h) (Or.inl ⟨by kernel_rfl, ?yn14k15⟩) (by assumption) ?rn14k15
  case yn14k15 => intro w hSw; (try dsimp only at hSw); go_simp; try with_reducible rfl
  try simp only [Act.put, List.setIfInBounds_toArray, List.set_cons_zero, List.set_cons_succ]
  refine wpAnyH_take (i := 16) (oi := { dst := some 86, op := Op.load 37 (Operand.tmp 3), type := 37, pos := "law.go:66", after := #[{ on := 15, ground := Ground.guard }], guard := some (15, false) }) (v := ?vn15k16) rfl (by kernel_rfl) (by kernel_rfl) (by kernel_rfl) (fun _ _ _ h => h) (Or.inl ⟨by kernel_rfl, ?yn15k16⟩) (by assumption) ?rn15k16
  case yn15k16 => intro w hSw; (try dsimp only at hSw); go_simp; try with_reducible rfl
  try simp only [Act.put, List.setIfInBounds_toArray, List.set_cons_zero, List.set_cons_succ]
  refine wpAnyH_take (i := 18) (oi := { dst := some 88, op := Op.load 37 (Operand.tmp 3), type := 37, pos := "law.go:66", after := #[{ on := 15, ground := Ground.guard }], guard := some (15, false) }) (v := ?vn16k18) rfl (by kernel_rfl) (by kernel_rfl) (by kernel_rfl) (fun _ _ _ h => h) (Or.inl ⟨by kernel_rfl, ?yn16k18⟩) (by assumption) ?rn16k18
  case yn16k18 => intro w hSw; (try dsimp only at hSw); go_simp; try with_reducible rfl
  try simp only [Act.put, List.setIfInBounds_toArray, List.set_cons_zero, List.set_cons_succ]
  refine wpAnyH_ready (rs := [17]) (by kernel_rfl) (by simp) (AllReadyH.cons (o := { dst := some 87, op := Op.call { callee := Callee.value (Operand.func 35), args := #[Operand.tmp 86], argTypes := #[37] }, type := 4, pos := "law.go:66", after := #[{ on := 16, ground := Ground.data }, { on := 15, ground := Ground.chain }, { on := 15, ground := Ground.guard }], guard := some (15, false) }) rfl (fun KK hK => ?_) AllReadyH.nil)
  go_simp
  refine (FP.out _ ST.out.1).mono ?_
  rintro e z17 ⟨rfl, hb⟩
  replace ST := Lib.hid (ST.out.step hb)
  clear hb hHeld
  refine hK.out _ _ (fam4 (ST.out.nth 3 rfl)) (fun hHeld => ?_)
  clear hK KK
  try simp only [Act.put, List.setIfInBounds_toArray, List.set_cons_zero, List.set_cons_succ]
  refine wpAnyH_ready (rs := [19]) (by kernel_rfl) (by simp) (AllReadyH.cons (o := { dst := some 89, op := Op.call { callee := Callee.value (Operand.func 36), args := #[Operand.tmp 88], argTypes := #[37] }, type := 4, pos := "law.go:66", after := #[{ on := 18, ground := Ground.data }, { on := 17, ground := Ground.chain }, { on := 15, ground := Ground.guard }], guard := some (15, false) }) rfl (fun KK hK => ?_) AllReadyH.nil)
  go_simp
  refine (FR.out _ ST.out.1).mono ?_
  rintro e z19 ⟨rfl, hb⟩
  replace ST := Lib.hid (ST.out.step hb)
  clear hb hHeld
  refine hK.out _ _ (fam4 (ST.out.nth 3 rfl)) (fun hHeld => ?_)
  clear hK KK
  try simp only [Act.put, List.setIfInBounds_toArray, List.set_cons_zero, List.set_cons_succ]
  refine wpAnyH_take (i := 20) (oi := { dst := some 90, op := Op.binOp BinOp.neq 4 (Operand.tmp 87) (Operand.tmp 89) 4, type := 4, pos := "law.go:66", after := #[{ on := 17, ground := Ground.data }, { on := 19, ground := Ground.data }, { on := 15, ground := Ground.guard }], guard := some (15, false) }) (v := ?vn17k20) rfl (by kernel_rfl) (by kernel_rfl) (by kernel_rfl) (fun _ _ _ h => h) (Or.inl ⟨by kernel_rfl, ?yn17k20⟩) (by assumption) ?rn17k20
  case yn17k20 => intro w hSw; (try dsimp only at hSw); go_simp; try with_reducible rfl
  try simp only [Act.put, List.setIfInBounds_toArray, List.set_cons_zero, List.set_cons_succ]
  refine wpAnyH_take (i := 21) (oi := { dst := some 91, op := Op.pick (Operand.tmp 85) (Operand.const (Value.bool true)) (Operand.tmp 90), type := 4, pos := "law.go:66", after := #[{ on := 15, ground := Ground.data }, { on := 20, ground := Ground.data }], guard := none }) (v := ?vn18k21) rfl (by kernel_rfl) (by kernel_rfl) (by kernel_rfl) (fun _ _ _ h => h) (Or.inl ⟨by kernel_rfl, ?yn18k21⟩) (by assumption) ?rn18k21
  case yn18k21 => intro w hSw; (try dsimp only at hSw); go_simp; try with_reducible rfl
  try simp only [Act.put, List.setIfInBounds_toArray, List.set_cons_zero, List.set_cons_succ]
  refine wpAnyH_take (i := 22) (oi := { dst := some 92, op := Op.move (Operand.tmp 91), type := 4, pos := "law.go:66", after := #[{ on := 21, ground := Ground.data }, { on := 19, ground := Ground.chain }], guard := none }) (v := ?vn19k22) rfl (by kernel_rfl) (by kernel_rfl) (by kernel_rfl) (fun _ _ _ h => h) (Or.inl ⟨by kernel_rfl, ?yn19k22⟩) (by assumption) ?rn19k22
  case yn19k22 => intro w hSw; (try dsimp only at hSw); go_simp; try with_reducible rfl
  try simp only [Act.put, List.setIfInBounds_toArray, List.set_cons_zero, List.set_cons_succ]
  refine wpAnyH_take (i := 23) (oi := { dst := some 93, op := Op.load 37 (Operand.tmp 3), type := 37, pos := "law.go:66", after := #[{ on := 22, ground := Ground.guard }], guard := some (22, false) }) (v := ?vn20k23) rfl (by kernel_rfl) (by kernel_rfl) (by kernel_rfl) (fun _ _ _ h => h) (Or.inl ⟨by kernel_rfl, ?yn20k23⟩) (by assumption) ?rn20k23
  case yn20k23 => intro w hSw; (try dsimp only at hSw); go_simp; try with_reducible rfl
  try simp only [Act.put, List.setIfInBounds_toArray, List.set_cons_zero, List.set_cons_succ]
  refine wpAnyH_take (i := 24) (oi := { dst := some 94, op := Op.move (Operand.tmp 2), type := 23, pos := "law.go:66", after := #[{ on := 22, ground := Ground.guard }], guard := some (22, false) }) (v := ?vn21k24) rfl (by kernel_rfl) (by kernel_rfl) (by kernel_rfl) (fun _ _ _ h => h) (Or.inl ⟨by kernel_rfl, ?yn21k24⟩) (by assumption) ?rn21k24
  case yn21k24 => intro w hSw; (try dsimp only at hSw); go_simp; try with_reducible rfl
  try simp only [Act.put, List.setIfInBounds_toArray, List.set_cons_zero, List.set_cons_succ]
  refine wpAnyH_take (i := 26) (oi := { dst := some 96, op := Op.load 37 (Operand.tmp 3), type := 37, pos := "law.go:66", after := #[{ on := 22, ground := Ground.guard }], guard := some (22, false) }) (v := ?vn22k26) rfl (by kernel_rfl) (by kernel_rfl) (by kernel_rfl) (fun _ _ _ h => h) (Or.inl ⟨by kernel_rfl, ?yn22k26⟩) (by assumption) ?rn22k26
  case yn22k26 => intro w hSw; (try dsimp only at hSw); go_simp; try with_reducible rfl
  try simp only [Act.put, List.setIfInBounds_toArray, List.set_cons_zero, List.set_cons_succ]
  refine wpAnyH_take (i := 27) (oi := { dst := some 97, op := Op.move (Operand.tmp 2), type := 23, pos := "law.go:66", after := #[{ on := 22, ground := Ground.guard }], guard := some (22, false) }) (v := ?vn23k27) rfl (by kernel_rfl) (by kernel_rfl) (by kernel_rfl) (fun _ _ _ h => h) (Or.inl ⟨by kernel_rfl, ?yn23k27⟩) (by assumption) ?rn23k27
  case yn23k27 => intro w hSw; (try dsimp only at hSw); go_simp; try with_reducible rfl
  try simp only [Act.put, List.setIfInBounds_toArray, List.set_cons_zero, List.set_cons_succ]
  refine wpAnyH_ready (rs := [25]) (by kernel_rfl) (by simp) (AllReadyH.cons (o := { dst := some 95, op := Op.call { callee := Callee.value (Operand.func 37), args := #[Operand.tmp 93, Operand.tmp 94], argTypes := #[37, 23] }, type := 4, pos := "law.go:66", after := #[{ on := 23, ground := Ground.data }, { on := 24, ground := Ground.data }, { on := 22, ground := Ground.chain }, { on := 22, ground := Ground.guard }], guard := some (22, false) }) rfl (fun KK hK => ?_) AllReadyH.nil)
  go_simp
  refine (HP.out _ ST.out.1).mono ?_
  rintro e z25 ⟨rfl, hb⟩
  replace ST := Lib.hid (ST.out.step hb)
  clear hb hHeld
  refine hK.out _ _ (fam4 (ST.out.nth 3 rfl)) (fun hHeld => ?_)
  clear hK KK
  try simp only [Act.put, List.setIfInBounds_toArray, List.set_cons_zero, List.set_cons_succ]
  refine wpAnyH_ready (rs := [28]) (by kernel_rfl) (by simp) (AllReadyH.cons (o := { dst := some 98, op := Op.call { callee := Callee.value (Operand.func 38), args := #[Operand.tmp 96, Operand.tmp 97], argTypes := #[37, 23] }, type := 4, pos := "law.go:66", after := #[{ on := 26, ground := Ground.data }, { on := 27, ground := Ground.data }, { on := 25, ground := Ground.chain }, { on := 22, ground := Ground.guard }], guard := some (22, false) }) rfl (fun KK hK => ?_) AllReadyH.nil)
  go_simp
  refine (HR.out _ ST.out.1).mono ?_
  rintro e z28 ⟨rfl, hb⟩
  replace ST := Lib.hid (ST.out.step hb)
  clear hb hHeld
  refine hK.out _ _ (fam4 (ST.out.nth 3 rfl)) (fun hHeld => ?_)
  clear hK KK
  try simp only [Act.put, List.setIfInBounds_toArray, List.set_cons_zero, List.set_cons_succ]
  refine wpAnyH_take (i := 29) (oi := { dst := some 99, op := Op.binOp BinOp.neq 4 (Operand.tmp 95) (Operand.tmp 98) 4, type := 4, pos := "law.go:66", after := #[{ on := 25, ground := Ground.data }, { on := 28, ground := Ground.data }, { on := 22, ground := Ground.guard }], guard := some (22, false) }) (v := ?vn24k29) rfl (by kernel_rfl) (by kernel_rfl) (by kernel_rfl) (fun _ _ _ h => h) (Or.inl ⟨by kernel_rfl, ?yn24k29⟩) (by assumption) ?rn24k29
  case yn24k29 => intro w hSw; (try dsimp only at hSw); go_simp; try with_reducible rfl
  try simp only [Act.put, List.setIfInBounds_toArray, List.set_cons_zero, List.set_cons_succ]
  refine wpAnyH_take (i := 30) (oi := { dst := some 100, op := Op.pick (Operand.tmp 92) (Operand.const (Value.bool true)) (Operand.tmp 99), type := 4, pos := "law.go:66", after := #[{ on := 22, ground := Ground.data }, { on := 29, ground := Ground.data }], guard := none }) (v := ?vn25k30) rfl (by kernel_rfl) (by kernel_rfl) (by kernel_rfl) (fun _ _ _ h => h) (Or.inl ⟨by kernel_rfl, ?yn25k30⟩) (by assumption) ?rn25k30
  case yn25k30 => intro w hSw; (try dsimp only at hSw); go_simp; try with_reducible rfl
  try simp only [Act.put, List.setIfInBounds_toArray, List.set_cons_zero, List.set_cons_succ]
  refine wpAnyH_done (by kernel_rfl) ?_ _
  clear hHeld
  clear VP VR FP FR HR
  go_upto_region 11 with fail
  refine wp_region_held_drew (S := fun (wx : World) => wx.cell? ⟨ga, 0, none⟩ = some (.slice none 0 0) ∧ wx.cell? ⟨ga, 1, none⟩ = some (.slice none 0 0) ∧ wx.cell? ⟨ga, 2, none⟩ = some (.int .i64 0) ∧ wx.cell? ⟨ga, 3, none⟩ = some (.int .i64 0) ∧ wx.cell? ⟨w.heap.size, 0, none⟩ = some (.slice A n1 c1) ∧ wx.cell? ⟨w.heap.size, 1, none⟩ = some (.slice B n2 c2) ∧ wx.cell? ⟨w.heap.size, 2, none⟩ = some (.int .i64 mn) ∧ wx.cell? ⟨w.heap.size, 3, none⟩ = some (.int .i64 mx)) (by kernel_rfl) (⟨(fam4 (ST.out.nth 1 rfl)).1, (fam4 (ST.out.nth 1 rfl)).2.1, (fam4 (ST.out.nth 1 rfl)).2.2.1, (fam4 (ST.out.nth 1 rfl)).2.2.2, fam4 (ST.out.nth 3 rfl)⟩) (fun hHeld => ?_)
  replace ST := Lib.hid ST.out.drew
  generalize z28.drew = z28d at *
  refine wpAnyH_take (i := 0) (oi := { dst := some 101, op := Op.move (Operand.tmp 8), type := 25, pos := "law.go:69", after := #[], guard := none }) (v := ?vn26k0) rfl (by kernel_rfl) (by kernel_rfl) (by kernel_rfl) (fun _ _ _ h => h) (Or.inl ⟨by kernel_rfl, ?yn26k0⟩) (by assumption) ?rn26k0
  case yn26k0 => intro w hSw; (try dsimp only at hSw); go_simp; try with_reducible rfl
  try simp only [Act.put, List.setIfInBounds_toArray, List.set_cons_zero, List.set_cons_succ]
  refine wpAnyH_take (i := 1) (oi := { dst := some 102, op := Op.binOp BinOp.eql 25 (Operand.tmp 101) (Operand.const (Value.int IntKind.i64 0)) 25, type := 4, pos := "law.go:69", after := #[{ on := 0, ground := Ground.data }], guard := none }) (v := ?vn27k1) rfl (by kernel_rfl) (by kernel_rfl) (by kernel_rfl) (fun _ _ _ h => h) (Or.inl ⟨by kernel_rfl, ?yn27k1⟩) (by assumption) ?rn27k1
  case yn27k1 => intro w hSw; (try dsimp only at hSw); go_simp; try with_reducible rfl
  try simp only [Act.put, List.setIfInBounds_toArray, List.set_cons_zero, List.set_cons_succ]
  refine wpAnyH_take (i := 2) (oi := { dst := some 103, op := Op.move (Operand.tmp 102), type := 4, pos := "law.go:69", after := #[{ on := 1, ground := Ground.data }], guard := none }) (v := ?vn28k2) rfl (by kernel_rfl) (by kernel_rfl) (by kernel_rfl) (fun _ _ _ h => h) (Or.inl ⟨by kernel_rfl, ?yn28k2⟩) (by assumption) ?rn28k2
  case yn28k2 => intro w hSw; (try dsimp only at hSw); go_simp; try with_reducible rfl
  try simp only [Act.put, List.setIfInBounds_toArray, List.set_cons_zero, List.set_cons_succ]
  refine wpAnyH_take (i := 3) (oi := { dst := some 104, op := Op.load 37 (Operand.tmp 7), type := 37, pos := "law.go:69", after := #[{ on := 2, ground := Ground.guard }], guard := some (2, true) }) (v := undef) rfl (by kernel_rfl) (by kernel_rfl) (by kernel_rfl) (fun _ _ _ h => h) (Or.inr ⟨by kernel_rfl, rfl⟩) (by assumption) ?rn29k3
  try simp only [Act.put, List.setIfInBounds_toArray, List.set_cons_zero, List.set_cons_succ]
  refine wpAnyH_take (i := 4) (oi := { dst := some 105, op := Op.move (Operand.tmp 2), type := 23, pos := "law.go:69", after := #[{ on := 2, ground := Ground.guard }], guard := some (2, true) }) (v := undef) rfl (by kernel_rfl) (by kernel_rfl) (by kernel_rfl) (fun _ _ _ h => h) (Or.inr ⟨by kernel_rfl, rfl⟩) (by assumption) ?rn30k4
  try simp only [Act.put, List.setIfInBounds_toArray, List.set_cons_zero, List.set_cons_succ]
  refine wpAnyH_take (i := 5) (oi := { dst := some 106, op := Op.call { callee := Callee.value (Operand.func 37), args := #[Operand.tmp 104, Operand.tmp 105], argTypes := #[37, 23] }, type := 4, pos := "law.go:69", after := #[{ on := 3, ground := Ground.data }, { on := 4, ground := Ground.data }, { on := 2, ground := Ground.chain }, { on := 2, ground := Ground.guard }], guard := some (2, true) }) (v := undef) rfl (by kernel_rfl) (by kernel_rfl) (by kernel_rfl) (fun _ _ _ h => h) (Or.inr ⟨by kernel_rfl, rfl⟩) (by assumption) ?rn31k5
  try simp only [Act.put, List.setIfInBounds_toArray, List.set_cons_zero, List.set_cons_succ]
  refine wpAnyH_take (i := 6) (oi := { dst := some 107, op := Op.load 37 (Operand.tmp 3), type := 37, pos := "law.go:69", after := #[{ on := 2, ground := Ground.guard }], guard := some (2, true) }) (v := undef) rfl (by kernel_rfl) (by kernel_rfl) (by kernel_rfl) (fun _ _ _ h => h) (Or.inr ⟨by kernel_rfl, rfl⟩) (by assumption) ?rn32k6
  try simp only [Act.put, List.setIfInBounds_toArray, List.set_cons_zero, List.set_cons_succ]
  refine wpAnyH_take (i := 7) (oi := { dst := some 108, op := Op.move (Operand.tmp 2), type := 23, pos := "law.go:69", after := #[{ on := 2, ground := Ground.guard }], guard := some (2, true) }) (v := undef) rfl (by kernel_rfl) (by kernel_rfl) (by kernel_rfl) (fun _ _ _ h => h) (Or.inr ⟨by kernel_rfl, rfl⟩) (by assumption) ?rn33k7
  try simp only [Act.put, List.setIfInBounds_toArray, List.set_cons_zero, List.set_cons_succ]
  refine wpAnyH_take (i := 8) (oi := { dst := some 109, op := Op.call { callee := Callee.value (Operand.func 37), args := #[Operand.tmp 107, Operand.tmp 108], argTypes := #[37, 23] }, type := 4, pos := "law.go:69", after := #[{ on := 6, ground := Ground.data }, { on := 7, ground := Ground.data }, { on := 5, ground := Ground.chain }, { on := 2, ground := Ground.guard }], guard := some (2, true) }) (v := undef) rfl (by kernel_rfl) (by kernel_rfl) (by kernel_rfl) (fun _ _ _ h => h) (Or.inr ⟨by kernel_rfl, rfl⟩) (by assumption) ?rn34k8
  try simp only [Act.put, List.setIfInBounds_toArray, List.set_cons_zero, List.set_cons_succ]
  refine wpAnyH_take (i := 9) (oi := { dst := some 110, op := Op.binOp BinOp.neq 4 (Operand.tmp 106) (Operand.tmp 109) 4, type := 4, pos := "law.go:69", after := #[{ on := 5, ground := Ground.data }, { on := 8, ground := Ground.data }, { on := 2, ground := Ground.guard }], guard := some (2, true) }) (v := undef) rfl (by kernel_rfl) (by kernel_rfl) (by kernel_rfl) (fun _ _ _ h => h) (Or.inr ⟨by kernel_rfl, rfl⟩) (by assumption) ?rn35k9
  try simp only [Act.put, List.setIfInBounds_toArray, List.set_cons_zero, List.set_cons_succ]
  refine wpAnyH_take (i := 10) (oi := { dst := some 111, op := Op.pick (Operand.tmp 103) (Operand.tmp 110) (Operand.const (Value.bool false)), type := 4, pos := "law.go:69", after := #[{ on := 2, ground := Ground.data }, { on := 9, ground := Ground.data }], guard := none }) (v := ?vn36k10) rfl (by kernel_rfl) (by kernel_rfl) (by kernel_rfl) (fun _ _ _ h => h) (Or.inl ⟨by kernel_rfl, ?yn36k10⟩) (by assumption) ?rn36k10
  case yn36k10 => intro w hSw; (try dsimp only at hSw); go_simp; try with_reducible rfl
  try simp only [Act.put, List.setIfInBounds_toArray, List.set_cons_zero, List.set_cons_succ]
  refine wpAnyH_take (i := 11) (oi := { dst := some 112, op := Op.move (Operand.tmp 111), type := 4, pos := "law.go:69", after := #[{ on := 10, ground := Ground.data }, { on := 8, ground := Ground.chain }], guard := none }) (v := ?vn37k11) rfl (by kernel_rfl) (by kernel_rfl) (by kernel_rfl) (fun _ _ _ h => h) (Or.inl ⟨by kernel_rfl, ?yn37k11⟩) (by assumption) ?rn37k11
  case yn37k11 => intro w hSw; (try dsimp only at hSw); go_simp; try with_reducible rfl
  try simp only [Act.put, List.setIfInBounds_toArray, List.set_cons_zero, List.set_cons_succ]
  refine wpAnyH_take (i := 12) (oi := { dst := some 113, op := Op.move (Operand.tmp 8), type := 25, pos := "law.go:69", after := #[{ on := 11, ground := Ground.guard }], guard := some (11, false) }) (v := ?vn38k12) rfl (by kernel_rfl) (by kernel_rfl) (by kernel_rfl) (fun _ _ _ h => h) (Or.inl ⟨by kernel_rfl, ?yn38k12⟩) (by assumption) ?rn38k12
  case yn38k12 => intro w hSw; (try dsimp only at hSw); go_simp; try with_reducible rfl
  try simp only [Act.put, List.setIfInBounds_toArray, List.set_cons_zero, List.set_cons_succ]
  refine wpAnyH_take (i := 13) (oi := { dst := some 114, op := Op.binOp BinOp.eql 25 (Operand.tmp 113) (Operand.const (Value.int IntKind.i64 60)) 25, type := 4, pos := "law.go:69", after := #[{ on := 12, ground := Ground.data }, { on := 11, ground := Ground.guard }], guard := some (11, false) }) (v := ?vn39k13) rfl (by kernel_rfl) (by kernel_rfl) (by kernel_rfl) (fun _ _ _ h => h) (Or.inl ⟨by kernel_rfl, ?yn39k13⟩) (by assumption) ?rn39k13
  case yn39k13 => intro w hSw; (try dsimp only at hSw); go_simp; try with_reducible rfl
  try simp only [Act.put, List.setIfInBounds_toArray, List.set_cons_zero, List.set_cons_succ]
  refine wpAnyH_take (i := 14) (oi := { dst := some 115, op := Op.move (Operand.tmp 114), type := 4, pos := "law.go:69", after := #[{ on := 13, ground := Ground.data }, { on := 11, ground := Ground.chain }, { on := 11, ground := Ground.guard }], guard := some (11, false) }) (v := ?vn40k14) rfl (by kernel_rfl) (by kernel_rfl) (by kernel_rfl) (fun _ _ _ h => h) (Or.inl ⟨by kernel_rfl, ?yn40k14⟩) (by assumption) ?rn40k14
  case yn40k14 => intro w hSw; (try dsimp only at hSw); go_simp; try with_reducible rfl
  try simp only [Act.put, List.setIfInBounds_toArray, List.set_cons_zero, List.set_cons_succ]
  refine wpAnyH_take (i := 15) (oi := { dst := some 116, op := Op.load 37 (Operand.tmp 3), type := 37, pos := "law.go:69", after := #[{ on := 14, ground := Ground.guard }], guard := some (14, true) }) (v := undef) rfl (by kernel_rfl) (by kernel_rfl) (by kernel_rfl) (fun _ _ _ h => h) (Or.inr ⟨by kernel_rfl, rfl⟩) (by assumption) ?rn41k15
  try simp only [Act.put, List.setIfInBounds_toArray, List.set_cons_zero, List.set_cons_succ]
  refine wpAnyH_take (i := 16) (oi := { dst := some 117, op := Op.move (Operand.tmp 2), type := 23, pos := "law.go:69", after := #[{ on := 14, ground := Ground.guard }], guard := some (14, true) }) (v := undef) rfl (by kernel_rfl) (by kernel_rfl) (by kernel_rfl) (fun _ _ _ h => h) (Or.inr ⟨by kernel_rfl, rfl⟩) (by assumption) ?rn42k16
  try simp only [Act.put, List.setIfInBounds_toArray, List.set_cons_zero, List.set_cons_succ]
  refine wpAnyH_take (i := 17) (oi := { dst := some 118, op := Op.call { callee := Callee.value (Operand.func 37), args := #[Operand.tmp 116, Operand.tmp 117], argTypes := #[37, 23] }, type := 4, pos := "law.go:69", after := #[{ on := 15, ground := Ground.data }, { on := 16, ground := Ground.data }, { on := 14, ground := Ground.chain }, { on := 14, ground := Ground.guard }], guard := some (14, true) }) (v := undef) rfl (by kernel_rfl) (by kernel_rfl) (by kernel_rfl) (fun _ _ _ h => h) (Or.inr ⟨by kernel_rfl, rfl⟩) (by assumption) ?rn43k17
  try simp only [Act.put, List.setIfInBounds_toArray, List.set_cons_zero, List.set_cons_succ]
  refine wpAnyH_take (i := 18) (oi := { dst := some 119, op := Op.move (Operand.tmp 118), type := 4, pos := "law.go:69", after := #[{ on := 17, ground := Ground.data }, { on := 17, ground := Ground.chain }, { on := 14, ground := Ground.guard }], guard := some (14, true) }) (v := undef) rfl (by kernel_rfl) (by kernel_rfl) (by kernel_rfl) (fun _ _ _ h => h) (Or.inr ⟨by kernel_rfl, rfl⟩) (by assumption) ?rn44k18
  try simp only [Act.put, List.setIfInBounds_toArray, List.set_cons_zero, List.set_cons_succ]
  refine wpAnyH_take (i := 19) (oi := { dst := some 120, op := Op.move (Operand.tmp 11), type := 3, pos := "law.go:69", after := #[{ on := 18, ground := Ground.guard }], guard := some (18, false) }) (v := undef) rfl (by kernel_rfl) (by kernel_rfl) (by kernel_rfl) (fun _ _ _ h => h) (Or.inr ⟨by kernel_rfl, rfl⟩) (by assumption) ?rn45k19
  try simp only [Act.put, List.setIfInBounds_toArray, List.set_cons_zero, List.set_cons_succ]
  refine wpAnyH_take (i := 20) (oi := { dst := some 121, op := Op.binOp BinOp.neq 3 (Operand.tmp 120) (Operand.const (Value.int IntKind.i64 0)) 3, type := 4, pos := "law.go:69", after := #[{ on := 19, ground := Ground.data }, { on := 18, ground := Ground.guard }], guard := some (18, false) }) (v := undef) rfl (by kernel_rfl) (by kernel_rfl) (by kernel_rfl) (fun _ _ _ h => h) (Or.inr ⟨by kernel_rfl, rfl⟩) (by assumption) ?rn46k20
  try simp only [Act.put, List.setIfInBounds_toArray, List.set_cons_zero, List.set_cons_succ]
  refine wpAnyH_take (i := 21) (oi := { dst := some 122, op := Op.pick (Operand.tmp 119) (Operand.const (Value.bool true)) (Operand.tmp 121), type := 4, pos := "law.go:69", after := #[{ on := 18, ground := Ground.data }, { on := 20, ground := Ground.data }, { on := 14, ground := Ground.guard }], guard := some (14, true) }) (v := undef) rfl (by kernel_rfl) (by kernel_rfl) (by kernel_rfl) (fun _ _ _ h => h) (Or.inr ⟨by kernel_rfl, rfl⟩) (by assumption) ?rn47k21
  try simp only [Act.put, List.setIfInBounds_toArray, List.set_cons_zero, List.set_cons_succ]
  refine wpAnyH_take (i := 22) (oi := { dst := some 123, op := Op.pick (Operand.tmp 115) (Operand.tmp 122) (Operand.const (Value.bool false)), type := 4, pos := "law.go:69", after := #[{ on := 14, ground := Ground.data }, { on := 21, ground := Ground.data }, { on := 11, ground := Ground.guard }], guard := some (11, false) }) (v := ?vn48k22) rfl (by kernel_rfl) (by kernel_rfl) (by kernel_rfl) (fun _ _ _ h => h) (Or.inl ⟨by kernel_rfl, ?yn48k22⟩) (by assumption) ?rn48k22
  case yn48k22 => intro w hSw; (try dsimp only at hSw); go_simp; try with_reducible rfl
  try simp only [Act.put, List.setIfInBounds_toArray, List.set_cons_zero, List.set_cons_succ]
  refine wpAnyH_take (i := 23) (oi := { dst := some 124, op := Op.pick (Operand.tmp 112) (Operand.const (Value.bool true)) (Operand.tmp 123), type := 4, pos := "law.go:69", after := #[{ on := 11, ground := Ground.data }, { on := 22, ground := Ground.data }], guard := none }) (v := ?vn49k23) rfl (by kernel_rfl) (by kernel_rfl) (by kernel_rfl) (fun _ _ _ h => h) (Or.inl ⟨by kernel_rfl, ?yn49k23⟩) (by assumption) ?rn49k23
  case yn49k23 => intro w hSw; (try dsimp only at hSw); go_simp; try with_reducible rfl
  try simp only [Act.put, List.setIfInBounds_toArray, List.set_cons_zero, List.set_cons_succ]
  refine wpAnyH_done (by kernel_rfl) ?_ _
  clear hHeld
  go_upto_region 13 with fail
  replace ST := Lib.hid (Stt.drop (Stt.drop ST.out))
  obtain ⟨x0, x1, x2, x3⟩ := fam4 (ST.out.nth 1 rfl)
  obtain ⟨g0, g1, g2, g3⟩ := fam4 (ST.out.nth 0 rfl)
  go_upto_region 14 with (go_at_call 39; clear x0 x1 x2 x3 g0 g1 g2 g3; refine (MP.out _ ST.out.1).mono ?_; rintro e m1 ⟨rfl, hb⟩; replace ST := Lib.hid (ST.out.step hb); clear hb MP)
  have hb := (Below.refl m1.heap.size m1).alloc (Nat.le_refl _) (.cells #[.slice none 0 0, .slice none 0 0, .int .i64 0, .int .i64 0] 37)
  replace ST := Lib.hid (ST.out.put (.cells #[.slice none 0 0, .slice none 0 0, .int .i64 0, .int .i64 0] 37))
  clear hb
  generalize m1.alloc (.cells #[.slice none 0 0, .slice none 0 0, .int .i64 0, .int .i64 0] 37) = V6 at *
  generalize m1.heap.size = gc at *
  obtain ⟨x0, x1, x2, x3⟩ := fam4 (ST.out.nth 2 rfl)
  obtain ⟨g0, g1, g2, g3⟩ := fam4 (ST.out.nth 1 rfl)
  go_upto_region 15 with (go_at_call 40; clear x0 x1 x2 x3 g0 g1 g2 g3; refine (MR.out _ ST.out.1).mono ?_; rintro e m2 ⟨rfl, hb⟩; replace ST := Lib.hid (ST.out.step hb); clear hb MR)
  have hb := (Below.refl m2.heap.size m2).alloc (Nat.le_refl _) (.cells #[.slice none 0 0, .slice none 0 0, .int .i64 0, .int .i64 0] 37)
  replace ST := Lib.hid (ST.out.put (.cells #[.slice none 0 0, .slice none 0 0, .int .i64 0, .int .i64 0] 37))
  clear hb
  generalize m2.alloc (.cells #[.slice none 0 0, .slice none 0 0, .int .i64 0, .int .i64 0] 37) = V7 at *
  generalize m2.heap.size = gd at *
  obtain ⟨a0, a1, a2, a3⟩ := fam4 (ST.out.nth 1 rfl)
  obtain ⟨b0, b1, b2, b3⟩ := fam4 (ST.out.nth 0 rfl)
  go_upto_region 17 with (go_at_call 30; clear a0 a1 a2 a3 b0 b1 b2 b3; refine (zero_true _).mono ?_; rintro e m3 ⟨rfl, hb⟩; replace ST := Lib.hid (ST.out.step hb); clear hb)
  refine wp_region_held_drew (S := fun (wx : World) => wx.cell? ⟨gc, 0, none⟩ = some (.slice none 0 0) ∧ wx.cell? ⟨gc, 1, none⟩ = some (.slice none 0 0) ∧ wx.cell? ⟨gc, 2, none⟩ = some (.int .i64 0) ∧ wx.cell? ⟨gc, 3, none⟩ = some (.int .i64 0) ∧ wx.cell? ⟨w.heap.size, 0, none⟩ = some (.slice A n1 c1) ∧ wx.cell? ⟨w.heap.size, 1, none⟩ = some (.slice B n2 c2) ∧ wx.cell? ⟨w.heap.size, 2, none⟩ = some (.int .i64 mn) ∧ wx.cell? ⟨w.heap.size, 3, none⟩ = some (.int .i64 mx) ∧ wx.cell? ⟨w.heap.size + 1, 0, none⟩ = some (.slice A' n1' c1') ∧ wx.cell? ⟨w.heap.size + 1, 1, none⟩ = some (.slice B' n2' c2') ∧ wx.cell? ⟨w.heap.size + 1, 2, none⟩ = some (.int .i64 mn') ∧ wx.cell? ⟨w.heap.size + 1, 3, none⟩ = some (.int .i64 mx')) (by kernel_rfl) (⟨(fam4 (ST.out.nth 1 rfl)).1, (fam4 (ST.out.nth 1 rfl)).2.1, (fam4 (ST.out.nth 1 rfl)).2.2.1, (fam4 (ST.out.nth 1 rfl)).2.2.2, (fam4 (ST.out.nth 3 rfl)).1, (fam4 (ST.out.nth 3 rfl)).2.1, (fam4 (ST.out.nth 3 rfl)).2.2.1, (fam4 (ST.out.nth 3 rfl)).2.2.2, fam4 (ST.out.nth 2 rfl)⟩) (fun hHeld => ?_)
  replace ST := Lib.hid ST.out.drew
  generalize m3.drew = m3d at *
  refine wpAnyH_take (i := 0) (oi := { dst := some 159, op := Op.move (Operand.tmp 8), type := 25, pos := "law.go:77", after := #[], guard := none }) (v := ?vn50k0) rfl (by kernel_rfl) (by kernel_rfl) (by kernel_rfl) (fun _ _ _ h => h) (Or.inl ⟨by kernel_rfl, ?yn50k0⟩) (by assumption) ?rn50k0
  case yn50k0 => intro w hSw; (try dsimp only at hSw); go_simp; try with_reducible rfl
  try simp only [Act.put, List.setIfInBounds_toArray, List.set_cons_zero, List.set_cons_succ]
  refine wpAnyH_take (i := 1) (oi := { dst := some 160, op := Op.binOp BinOp.neq 25 (Operand.tmp 159) (Operand.const (Value.int IntKind.i64 0)) 25, type := 4, pos := "law.go:77", after := #[{ on := 0, ground := Ground.data }], guard := none }) (v := ?vn51k1) rfl (by kernel_rfl) (by kernel_rfl) (by kernel_rfl) (fun _ _ _ h => h) (Or.inl ⟨by kernel_rfl, ?yn51k1⟩) (by assumption) ?rn51k1
  case yn51k1 => intro w hSw; (try dsimp only at hSw); go_simp; try with_reducible rfl
  try simp only [Act.put, List.setIfInBounds_toArray, List.set_cons_zero, List.set_cons_succ]
  refine wpAnyH_take (i := 2) (oi := { dst := some 161, op := Op.move (Operand.tmp 160), type := 4, pos := "law.go:77", after := #[{ on := 1, ground := Ground.data }], guard := none }) (v := ?vn52k2) rfl (by kernel_rfl) (by kernel_rfl) (by kernel_rfl) (fun _ _ _ h => h) (Or.inl ⟨by kernel_rfl, ?yn52k2⟩) (by assumption) ?rn52k2
  case yn52k2 => intro w hSw; (try dsimp only at hSw); go_simp; try with_reducible rfl
  try simp only [Act.put, List.setIfInBounds_toArray, List.set_cons_zero, List.set_cons_succ]
  refine wpAnyH_take (i := 3) (oi := { dst := some 162, op := Op.load 37 (Operand.tmp 15), type := 37, pos := "law.go:77", after := #[{ on := 2, ground := Ground.guard }], guard := some (2, false) }) (v := undef) rfl (by kernel_rfl) (by kernel_rfl) (by kernel_rfl) (fun _ _ _ h => h) (Or.inr ⟨by kernel_rfl, rfl⟩) (by assumption) ?rn53k3
  try simp only [Act.put, List.setIfInBounds_toArray, List.set_cons_zero, List.set_cons_succ]
  refine wpAnyH_take (i := 4) (oi := { dst := some 163, op := Op.move (Operand.tmp 2), type := 23, pos := "law.go:77", after := #[{ on := 2, ground := Ground.guard }], guard := some (2, false) }) (v := undef) rfl (by kernel_rfl) (by kernel_rfl) (by kernel_rfl) (fun _ _ _ h => h) (Or.inr ⟨by kernel_rfl, rfl⟩) (by assumption) ?rn54k4
  try simp only [Act.put, List.setIfInBounds_toArray, List.set_cons_zero, List.set_cons_succ]
  refine wpAnyH_take (i := 5) (oi := { dst := some 164, op := Op.call { callee := Callee.value (Operand.func 37), args := #[Operand.tmp 162, Operand.tmp 163], argTypes := #[37, 23] }, type := 4, pos := "law.go:77", after := #[{ on := 3, ground := Ground.data }, { on := 4, ground := Ground.data }, { on := 2, ground := Ground.chain }, { on := 2, ground := Ground.guard }], guard := some (2, false) }) (v := undef) rfl (by kernel_rfl) (by kernel_rfl) (by kernel_rfl) (fun _ _ _ h => h) (Or.inr ⟨by kernel_rfl, rfl⟩) (by assumption) ?rn55k5
  try simp only [Act.put, List.setIfInBounds_toArray, List.set_cons_zero, List.set_cons_succ]
  refine wpAnyH_take (i := 6) (oi := { dst := some 165, op := Op.load 37 (Operand.tmp 3), type := 37, pos := "law.go:77", after := #[{ on := 2, ground := Ground.guard }], guard := some (2, false) }) (v := undef) rfl (by kernel_rfl) (by kernel_rfl) (by kernel_rfl) (fun _ _ _ h => h) (Or.inr ⟨by kernel_rfl, rfl⟩) (by assumption) ?rn56k6
  try simp only [Act.put, List.setIfInBounds_toArray, List.set_cons_zero, List.set_cons_succ]
  refine wpAnyH_take (i := 7) (oi := { dst := some 166, op := Op.move (Operand.tmp 2), type := 23, pos := "law.go:77", after := #[{ on := 2, ground := Ground.guard }], guard := some (2, false) }) (v := undef) rfl (by kernel_rfl) (by kernel_rfl) (by kernel_rfl) (fun _ _ _ h => h) (Or.inr ⟨by kernel_rfl, rfl⟩) (by assumption) ?rn57k7
  try simp only [Act.put, List.setIfInBounds_toArray, List.set_cons_zero, List.set_cons_succ]
  refine wpAnyH_take (i := 8) (oi := { dst := some 167, op := Op.call { callee := Callee.value (Operand.func 37), args := #[Operand.tmp 165, Operand.tmp 166], argTypes := #[37, 23] }, type := 4, pos := "law.go:77", after := #[{ on := 6, ground := Ground.data }, { on := 7, ground := Ground.data }, { on := 5, ground := Ground.chain }, { on := 2, ground := Ground.guard }], guard := some (2, false) }) (v := undef) rfl (by kernel_rfl) (by kernel_rfl) (by kernel_rfl) (fun _ _ _ h => h) (Or.inr ⟨by kernel_rfl, rfl⟩) (by assumption) ?rn58k8
  try simp only [Act.put, List.setIfInBounds_toArray, List.set_cons_zero, List.set_cons_succ]
  refine wpAnyH_take (i := 9) (oi := { dst := some 168, op := Op.move (Operand.tmp 167), type := 4, pos := "law.go:77", after := #[{ on := 8, ground := Ground.data }, { on := 8, ground := Ground.chain }, { on := 2, ground := Ground.guard }], guard := some (2, false) }) (v := undef) rfl (by kernel_rfl) (by kernel_rfl) (by kernel_rfl) (fun _ _ _ h => h) (Or.inr ⟨by kernel_rfl, rfl⟩) (by assumption) ?rn59k9
  try simp only [Act.put, List.setIfInBounds_toArray, List.set_cons_zero, List.set_cons_succ]
  refine wpAnyH_take (i := 10) (oi := { dst := some 169, op := Op.load 37 (Operand.tmp 4), type := 37, pos := "law.go:77", after := #[{ on := 9, ground := Ground.guard }], guard := some (9, true) }) (v := undef) rfl (by kernel_rfl) (by kernel_rfl) (by kernel_rfl) (fun _ _ _ h => h) (Or.inr ⟨by kernel_rfl, rfl⟩) (by assumption) ?rn60k10
  try simp only [Act.put, List.setIfInBounds_toArray, List.set_cons_zero, List.set_cons_succ]
  refine wpAnyH_take (i := 11) (oi := { dst := some 170, op := Op.move (Operand.tmp 2), type := 23, pos := "law.go:77", after := #[{ on := 9, ground := Ground.guard }], guard := some (9, true) }) (v := undef) rfl (by kernel_rfl) (by kernel_rfl) (by kernel_rfl) (fun _ _ _ h => h) (Or.inr ⟨by kernel_rfl, rfl⟩) (by assumption) ?rn61k11
  try simp only [Act.put, List.setIfInBounds_toArray, List.set_cons_zero, List.set_cons_succ]
  refine wpAnyH_take (i := 12) (oi := { dst := some 171, op := Op.call { callee := Callee.value (Operand.func 37), args := #[Operand.tmp 169, Operand.tmp 170], argTypes := #[37, 23] }, type := 4, pos := "law.go:77", after := #[{ on := 10, ground := Ground.data }, { on := 11, ground := Ground.data }, { on := 9, ground := Ground.chain }, { on := 9, ground := Ground.guard }], guard := some (9, true) }) (v := undef) rfl (by kernel_rfl) (by kernel_rfl) (by kernel_rfl) (fun _ _ _ h => h) (Or.inr ⟨by kernel_rfl, rfl⟩) (by assumption) ?rn62k12
  try simp only [Act.put, List.setIfInBounds_toArray, List.set_cons_zero, List.set_cons_succ]
  refine wpAnyH_take (i := 13) (oi := { dst := some 172, op := Op.pick (Operand.tmp 168) (Operand.tmp 171) (Operand.const (Value.bool false)), type := 4, pos := "law.go:77", after := #[{ on := 9, ground := Ground.data }, { on := 12, ground := Ground.data }, { on := 2, ground := Ground.guard }], guard := some (2, false) }) (v := undef) rfl (by kernel_rfl) (by kernel_rfl) (by kernel_rfl) (fun _ _ _ h => h) (Or.inr ⟨by kernel_rfl, rfl⟩) (by assumption) ?rn63k13
  try simp only [Act.put, List.setIfInBounds_toArray, List.set_cons_zero, List.set_cons_succ]
  refine wpAnyH_take (i := 14) (oi := { dst := some 173, op := Op.binOp BinOp.eql 4 (Operand.tmp 164) (Operand.tmp 172) 4, type := 4, pos := "law.go:77", after := #[{ on := 5, ground := Ground.data }, { on := 13, ground := Ground.data }, { on := 2, ground := Ground.guard }], guard := some (2, false) }) (v := undef) rfl (by kernel_rfl) (by kernel_rfl) (by kernel_rfl) (fun _ _ _ h => h) (Or.inr ⟨by kernel_rfl, rfl⟩) (by assumption) ?rn64k14
  try simp only [Act.put, List.setIfInBounds_toArray, List.set_cons_zero, List.set_cons_succ]
  refine wpAnyH_take (i := 15) (oi := { dst := some 174, op := Op.pick (Operand.tmp 161) (Operand.const (Value.bool true)) (Operand.tmp 173), type := 4, pos := "law.go:77", after := #[{ on := 2, ground := Ground.data }, { on := 14, ground := Ground.data }], guard := none }) (v := ?vn65k15) rfl (by kernel_rfl) (by kernel_rfl) (by kernel_rfl) (fun _ _ _ h => h) (Or.inl ⟨by kernel_rfl, ?yn65k15⟩) (by assumption) ?rn65k15
  case yn65k15 => intro w hSw; (try dsimp only at hSw); go_simp; try with_reducible rfl
  try simp only [Act.put, List.setIfInBounds_toArray, List.set_cons_zero, List.set_cons_succ]
  refine wpAnyH_take (i := 16) (oi := { dst := some 175, op := Op.move (Operand.tmp 174), type := 4, pos := "law.go:77", after := #[{ on := 15, ground := Ground.data }, { on := 12, ground := Ground.chain }], guard := none }) (v := ?vn66k16) rfl (by kernel_rfl) (by kernel_rfl) (by kernel_rfl) (fun _ _ _ h => h) (Or.inl ⟨by kernel_rfl, ?yn66k16⟩) (by assumption) ?rn66k16
  case yn66k16 => intro w hSw; (try dsimp only at hSw); go_simp; try with_reducible rfl
  try simp only [Act.put, List.setIfInBounds_toArray, List.set_cons_zero, List.set_cons_succ]
  refine wpAnyH_ready (rs := [17]) (by kernel_rfl) (by simp) (AllReadyH.cons (o := { dst := some 176, op := Op.call { callee := Callee.value (Operand.func 26), args := #[], argTypes := #[] }, type := 4, pos := "law.go:77", after := #[{ on := 16, ground := Ground.chain }, { on := 16, ground := Ground.guard }], guard := some (16, true) }) rfl (fun KK hK => ?_) AllReadyH.nil)
  go_simp
  refine (AW.out _ ST.out.1).mono ?_
  rintro e q17 ⟨rfl, hb⟩
  replace ST := Lib.hid (ST.out.step hb)
  clear hb hHeld
  refine hK.out _ _ (⟨(fam4 (ST.out.nth 1 rfl)).1, (fam4 (ST.out.nth 1 rfl)).2.1, (fam4 (ST.out.nth 1 rfl)).2.2.1, (fam4 (ST.out.nth 1 rfl)).2.2.2, (fam4 (ST.out.nth 3 rfl)).1, (fam4 (ST.out.nth 3 rfl)).2.1, (fam4 (ST.out.nth 3 rfl)).2.2.1, (fam4 (ST.out.nth 3 rfl)).2.2.2, fam4 (ST.out.nth 2 rfl)⟩) (fun hHeld => ?_)
  clear hK KK
  try simp only [Act.put, List.setIfInBounds_toArray, List.set_cons_zero, List.set_cons_succ]
  refine wpAnyH_take (i := 18) (oi := { dst := some 177, op := Op.pick (Operand.tmp 175) (Operand.tmp 176) (Operand.const (Value.bool false)), type := 4, pos := "law.go:77", after := #[{ on := 16, ground := Ground.data }, { on := 17, ground := Ground.data }], guard := none }) (v := ?vn67k18) rfl (by kernel_rfl) (by kernel_rfl) (by kernel_rfl) (fun _ _ _ h => h) (Or.inl ⟨by kernel_rfl, ?yn67k18⟩) (by assumption) ?rn67k18
  case yn67k18 => intro w hSw; (try dsimp only at hSw); go_simp; try with_reducible rfl
  try simp only [Act.put, List.setIfInBounds_toArray, List.set_cons_zero, List.set_cons_succ]
  refine wpAnyH_take (i := 19) (oi := { dst := some 6, op := Op.assign (Operand.tmp 177), type := 4, pos := "law.go:77", after := #[{ on := 18, ground := Ground.data }, { on := 17, ground := Ground.chain }, { on := 0, ground := Ground.phase }, { on := 1, ground := Ground.phase }, { on := 2, ground := Ground.phase }, { on := 3, ground := Ground.phase }, { on := 4, ground := Ground.phase }, { on := 5, ground := Ground.phase }, { on := 6, ground := Ground.phase }, { on := 7, ground := Ground.phase }, { on := 8, ground := Ground.phase }, { on := 9, ground := Ground.phase }, { on := 10, ground := Ground.phase }, { on := 11, ground := Ground.phase }, { on := 12, ground := Ground.phase }, { on := 13, ground := Ground.phase }, { on := 14, ground := Ground.phase }, { on := 15, ground := Ground.phase }, { on := 16, ground := Ground.phase }, { on := 17, ground := Ground.phase }, { on := 18, ground := Ground.phase }], guard := none }) (v := ?vn68k19) rfl (by kernel_rfl) (by kernel_rfl) (by kernel_rfl) (fun _ _ _ h => h) (Or.inl ⟨by kernel_rfl, ?yn68k19⟩) (by assumption) ?rn68k19
  case yn68k19 => intro w hSw; (try dsimp only at hSw); go_simp; try with_reducible rfl
  try simp only [Act.put, List.setIfInBounds_toArray, List.set_cons_zero, List.set_cons_succ]
  refine wpAnyH_done (by kernel_rfl) ?_ _
  clear hHeld
  go_wp2_with fail
  go_ret
  exact ⟨rfl, ST.out.1⟩
end Go.Proofs.YtgjphbkaonaneaaDoor
