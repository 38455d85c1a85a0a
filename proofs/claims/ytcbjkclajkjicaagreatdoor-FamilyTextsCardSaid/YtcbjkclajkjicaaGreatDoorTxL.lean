/-
  A family's text: the program's Text, over any contracts of isNormal and Join.
-/
import Derived.Test.YtcbjkclajkjicaaGreatDoorTaD
namespace Go.Proofs.YtcbjkclajkjicaaGreatDoor
set_option linter.unusedSimpArgs false
set_option linter.unusedVariables false
open Go Go.RowKit Go.Lib Go.Ev

theorem listB_size (l : List Int) (hn : l.length ≤ 100) : (st (listB l)).size ≤ 1000 := by
  rw [st_size]
  have h := congrArg List.length (list_text l)
  have h2 := textK_length l l.length
  unfold listT bytesI at h
  simp only [List.length_map, List.length_append, List.length_cons, List.length_nil] at h
  omega
/-- a contract of Join, on the words of numbers -/
def JoinOk : Prop := ∀ l : List Int, (∀ x ∈ l, 0 ≤ x ∧ x < 100) → l.length ≤ 100 → ∀ g w1, (∀ j, j < l.length → w1.cell? ⟨g, j, none⟩ = some (.string (numB (l.getD j 0).toNat))) → g < w1.heap.size → Calls Tryz.prog 31 #[.slice (some ⟨g, 0, none⟩) l.length l.length, .string ⟨#[32]⟩] w1 fun e w' => e = .returned (.string (st (joinB l))) ∧ Below w1.heap.size w1 w'
set_option maxRecDepth 100000 in
set_option maxHeartbeats 16000000 in
theorem TextP_any (lo hi : List Int) (mn mx : Int) (A B : Option Addr) (c1 c2 : Nat) (w : World) (ha : Ints w A lo) (hb : Ints w B hi) (nb : Bool)
    (RG : nb = true → InRange lo hi mn mx) (JN : JoinOk)
    (NB : ∀ w1, Below w.heap.size w w1 → Calls Tryz.prog 13 #[.agg #[.slice A lo.length c1, .slice B hi.length c2, .int .i64 mn, .int .i64 mx]] w1 fun e w' => e = .returned (.bool nb) ∧ Below w1.heap.size w1 w') :
    Calls Tryz.prog 6 #[.agg #[.slice A lo.length c1, .slice B hi.length c2, .int .i64 mn, .int .i64 mx]] w fun e w' => e = .returned (.tuple (if nb = true then #[.string (famL lo hi mn.toNat mx.toNat), .int .i64 0] else #[.string ⟨#[]⟩, .int .i64 2])) ∧ Below w.heap.size w w' := by
  have NH := Lib.hid NB
  have HA := Lib.hid ha
  have HB := Lib.hid hb
  have RH := Lib.hid RG
  have JH := Lib.hid JN
  unfold JoinOk at JH
  clear NB ha hb RG JN
  go_enter Tryz.func6, Tryz.ntmps6
  go_upto_region 1 with fail
  have BA := Lib.hid (show Below w.heap.size w (w.alloc (.cells #[.slice A lo.length c1, .slice B hi.length c2, .int .i64 mn, .int .i64 mx] 24)) from (Below.refl _ w).alloc (Nat.le_refl _) _)
  have FA := Lib.hid (show F4 (w.alloc (.cells #[.slice A lo.length c1, .slice B hi.length c2, .int .i64 mn, .int .i64 mx] 24)) w.heap.size (.slice A lo.length c1) (.slice B hi.length c2) (.int .i64 mn) (.int .i64 mx) from heap_alloc_new w (.cells #[.slice A lo.length c1, .slice B hi.length c2, .int .i64 mn, .int .i64 mx] 24))
  generalize w.alloc (.cells #[.slice A lo.length c1, .slice B hi.length c2, .int .i64 mn, .int .i64 mx] 24) = u at *
  obtain ⟨a0, a1, a2, a3, fa⟩ := FA.out.facts
  clear fa
  have NHu := Lib.hid (NH.out u BA.out)
  clear NH
  cases nb with
  | false =>
    go_wp2_with (go_at_call 13; refine NHu.out.mono ?_; rintro e w3 ⟨rfl, hb⟩; have B3 := Lib.hid (BA.out.trans (hb.mono BA.out.size)); clear a0 a1 a2 a3 hb NHu)
    refine bodyPost_ret (v := .tuple #[.string ⟨#[]⟩, .int .i64 2]) (by simp [results, Tryz.results6, go_sem]) rfl ?_
    exact ⟨rfl, B3.out⟩
  | true =>
    obtain ⟨x1, x2, ⟨y1, y1'⟩, ⟨y2, y2'⟩, l1, l2⟩ := RH.out (by simp)
    have X := Lib.hid (And.intro x1 x2)
    clear x1 x2 RH
    go_upto_region 3 with (go_at_call 13; refine NHu.out.mono ?_; rintro e w3 ⟨rfl, hb⟩; have B3 := Lib.hid (BA.out.trans (hb.mono BA.out.size)); have F3 := Lib.hid (FA.out.over hb); clear FA a0 a1 a2 a3 hb NHu)
    obtain ⟨mn, rfl⟩ : ∃ n : Nat, mn = n := ⟨mn.toNat, by omega⟩
    obtain ⟨mx, rfl⟩ : ∃ n : Nat, mx = n := ⟨mx.toNat, by omega⟩
    have SZ := Lib.hid (show w.heap.size + 1 ≤ w3.drew.heap.size from F3.out.lt)
    have SX := Lib.hid (show ∀ W, Below (w.heap.size + 1) w3 W → (fun (wx : World) => wx.cell? ⟨w.heap.size, 0, none⟩ = some (.slice A lo.length c1) ∧ wx.cell? ⟨w.heap.size, 1, none⟩ = some (.slice B hi.length c2) ∧ wx.cell? ⟨w.heap.size, 2, none⟩ = some (.int .i64 (mn : Int)) ∧ wx.cell? ⟨w.heap.size, 3, none⟩ = some (.int .i64 (mx : Int))) W from fun W h => by
      have hh := (h.block w.heap.size (by omega)).trans F3.out
      refine ⟨?_, ?_, ?_, ?_⟩ <;> (simp only [World.cell?, hh]; rfl))
    have HX0 := Lib.hid (show Below (w.heap.size + 1) w3 w3.drew from (Below.refl _ w3).drew)
    have HY0 := Lib.hid (show Below w.heap.size w w3.drew from B3.out.drew)
    have D0 := Lib.hid (show w.heap.size + 1 ≤ w3.drew.heap.size from SZ.out)
    have S0 := SX.out _ HX0.out
    have BR1 := Lib.hid (fun w1 (h : Below w.heap.size w w1) => setText_any lo A c1 w1 (HA.out.over h) X.out.1 (by omega) (JH.out lo X.out.1 (by omega)))
    have BR2 := Lib.hid (fun w1 (h : Below w.heap.size w w1) => setText_any hi B c2 w1 (HB.out.over h) X.out.2 (by omega) (JH.out hi X.out.2 (by omega)))
    have DC1 := Lib.hid (show ∀ w1, Calls Tryz.prog 15 #[.int .i64 (mn : Int)] w1 fun e w' => e = .returned (.string (numB mn)) ∧ Below w1.heap.size w1 w' from fun w1 => (itoa_any mn (by omega) w1).mono (by rintro e w' ⟨rfl, rfl⟩; exact ⟨rfl, Below.refl _ _⟩))
    have DC2 := Lib.hid (show ∀ w1, Calls Tryz.prog 15 #[.int .i64 (mx : Int)] w1 fun e w' => e = .returned (.string (numB mx)) ∧ Below w1.heap.size w1 w' from fun w1 => (itoa_any mx (by omega) w1).mono (by rintro e w' ⟨rfl, rfl⟩; exact ⟨rfl, Below.refl _ _⟩))
    have z1 := listB_size lo (by omega)
    have z2 := listB_size hi (by omega)
    have z3 := numB_size mn
    have z4 := numB_size mx
    have FLH := Lib.hid (show famL lo hi mn mx = ((((((st (listB lo) ++ ⟨#[32, 46, 46, 32]⟩) ++ st (listB hi)) ++ ⟨#[32, 35, 32]⟩) ++ numB mn) ++ ⟨#[32, 46, 46, 32]⟩) ++ numB mx) from by rw [← list_text, ← list_text]; rfl)
    clear JH
    generalize st (listB lo) = s1 at *
    generalize st (listB hi) = s2 at *
    generalize numB mn = s3 at *
    generalize numB mx = s4 at *
    have h1 : ¬ 9223372036854775807 < s1.size + 4 := by omega
    have h2 : ¬ 9223372036854775807 < s1.size + 4 + s2.size := by omega
    have h3 : ¬ 9223372036854775807 < s1.size + 4 + s2.size + 3 := by omega
    have h4 : ¬ 9223372036854775807 < s1.size + 4 + s2.size + 3 + s3.size := by omega
    have h5 : ¬ 9223372036854775807 < s1.size + 4 + s2.size + 3 + s3.size + 4 := by omega
    have h6 : ¬ 9223372036854775807 < s1.size + 4 + s2.size + 3 + s3.size + 4 + s4.size := by omega
    clear z1 z2 z3 z4
    refine wp_region_held_drew (S := fun (wx : World) => wx.cell? ⟨w.heap.size, 0, none⟩ = some (.slice A lo.length c1) ∧ wx.cell? ⟨w.heap.size, 1, none⟩ = some (.slice B hi.length c2) ∧ wx.cell? ⟨w.heap.size, 2, none⟩ = some (.int .i64 (mn : Int)) ∧ wx.cell? ⟨w.heap.size, 3, none⟩ = some (.int .i64 (mx : Int))) (by kernel_rfl) S0 (fun hHeld => ?_)
    clear S0 SZ
    generalize w3.drew = V at *
    refine wpAnyH_take (i := 0) (oi := { dst := some 8, op := Op.fieldAddr 24 (Operand.tmp 1) 0, type := 0, pos := "text.go:21", after := #[], guard := none }) (v := ?vn1k0) rfl (by kernel_rfl) (by kernel_rfl) (by kernel_rfl) (fun _ _ _ h => h) (Or.inl ⟨by kernel_rfl, ?yn1k0⟩) (by assumption) ?rn1k0
    case yn1k0 => intro w hSw; (try dsimp only at hSw); go_simp; try with_reducible rfl
    try simp only [Act.put, List.setIfInBounds_toArray, List.set_cons_zero, List.set_cons_succ]
    refine wpAnyH_take (i := 1) (oi := { dst := some 9, op := Op.load 22 (Operand.tmp 8), type := 22, pos := "text.go:21", after := #[{ on := 0, ground := Ground.data }], guard := none }) (v := ?vn2k1) rfl (by kernel_rfl) (by kernel_rfl) (by kernel_rfl) (fun _ _ _ h => h) (Or.inl ⟨by kernel_rfl, ?yn2k1⟩) (by assumption) ?rn2k1
    case yn2k1 => intro w hSw; (try dsimp only at hSw); go_simp; try with_reducible rfl
    try simp only [Act.put, List.setIfInBounds_toArray, List.set_cons_zero, List.set_cons_succ]
    refine wpAnyH_take (i := 4) (oi := { dst := some 12, op := Op.fieldAddr 24 (Operand.tmp 1) 1, type := 0, pos := "text.go:21", after := #[], guard := none }) (v := ?vn3k4) rfl (by kernel_rfl) (by kernel_rfl) (by kernel_rfl) (fun _ _ _ h => h) (Or.inl ⟨by kernel_rfl, ?yn3k4⟩) (by assumption) ?rn3k4
    case yn3k4 => intro w hSw; (try dsimp only at hSw); go_simp; try with_reducible rfl
    try simp only [Act.put, List.setIfInBounds_toArray, List.set_cons_zero, List.set_cons_succ]
    refine wpAnyH_take (i := 5) (oi := { dst := some 13, op := Op.load 22 (Operand.tmp 12), type := 22, pos := "text.go:21", after := #[{ on := 4, ground := Ground.data }], guard := none }) (v := ?vn4k5) rfl (by kernel_rfl) (by kernel_rfl) (by kernel_rfl) (fun _ _ _ h => h) (Or.inl ⟨by kernel_rfl, ?yn4k5⟩) (by assumption) ?rn4k5
    case yn4k5 => intro w hSw; (try dsimp only at hSw); go_simp; try with_reducible rfl
    try simp only [Act.put, List.setIfInBounds_toArray, List.set_cons_zero, List.set_cons_succ]
    refine wpAnyH_ready (rs := [2]) (by kernel_rfl) (by simp) (AllReadyH.cons (o := { dst := some 10, op := Op.call { callee := Callee.value (Operand.func 14), args := #[Operand.tmp 9], argTypes := #[22] }, type := 9, pos := "text.go:21", after := #[{ on := 1, ground := Ground.data }], guard := none }) rfl (fun K hK => ?_) AllReadyH.nil)
    go_simp
    refine (BR1.out _ HY0.out).mono ?_
    rintro e x1 ⟨rfl, hb⟩
    have HX1 := Lib.hid (show Below (w.heap.size + 1) w3 x1 from HX0.out.trans (hb.mono D0.out))
    have HY1 := Lib.hid (show Below w.heap.size w x1 from HY0.out.trans (hb.mono HY0.out.size))
    have D1 := Lib.hid (show w.heap.size + 1 ≤ x1.heap.size from Nat.le_trans D0.out hb.size)
    have S1 := SX.out _ HX1.out
    clear hb hHeld
    refine hK.out _ _ S1 (fun hHeld => ?_)
    clear hK K S1
    try simp only [Act.put, List.setIfInBounds_toArray, List.set_cons_zero, List.set_cons_succ]
    refine wpAnyH_take (i := 3) (oi := { dst := some 11, op := Op.binOp BinOp.add 9 (Operand.tmp 10) (Operand.const (Value.string { data := #[32, 46, 46, 32] })) 9, type := 9, pos := "text.go:21", after := #[{ on := 2, ground := Ground.data }], guard := none }) (v := ?vn5k3) rfl (by kernel_rfl) (by kernel_rfl) (by kernel_rfl) (fun _ _ _ h => h) (Or.inl ⟨by kernel_rfl, ?yn5k3⟩) (by assumption) ?rn5k3
    case yn5k3 => intro w hSw; (try dsimp only at hSw); go_simp; try with_reducible rfl
    try simp only [Act.put, List.setIfInBounds_toArray, List.set_cons_zero, List.set_cons_succ]
    refine wpAnyH_ready (rs := [6]) (by kernel_rfl) (by simp) (AllReadyH.cons (o := { dst := some 14, op := Op.call { callee := Callee.value (Operand.func 14), args := #[Operand.tmp 13], argTypes := #[22] }, type := 9, pos := "text.go:21", after := #[{ on := 5, ground := Ground.data }, { on := 2, ground := Ground.chain }], guard := none }) rfl (fun K hK => ?_) AllReadyH.nil)
    go_simp
    refine (BR2.out _ HY1.out).mono ?_
    rintro e x2 ⟨rfl, hb⟩
    have HX2 := Lib.hid (show Below (w.heap.size + 1) w3 x2 from HX1.out.trans (hb.mono D1.out))
    have HY2 := Lib.hid (show Below w.heap.size w x2 from HY1.out.trans (hb.mono HY1.out.size))
    have D2 := Lib.hid (show w.heap.size + 1 ≤ x2.heap.size from Nat.le_trans D1.out hb.size)
    have S2 := SX.out _ HX2.out
    clear hb hHeld
    refine hK.out _ _ S2 (fun hHeld => ?_)
    clear hK K S2
    try simp only [Act.put, List.setIfInBounds_toArray, List.set_cons_zero, List.set_cons_succ]
    refine wpAnyH_take (i := 7) (oi := { dst := some 15, op := Op.binOp BinOp.add 9 (Operand.tmp 11) (Operand.tmp 14) 9, type := 9, pos := "text.go:21", after := #[{ on := 3, ground := Ground.data }, { on := 6, ground := Ground.data }], guard := none }) (v := ?vn6k7) rfl (by kernel_rfl) (by kernel_rfl) (by kernel_rfl) (fun _ _ _ h => h) (Or.inl ⟨by kernel_rfl, ?yn6k7⟩) (by assumption) ?rn6k7
    case yn6k7 => intro w hSw; (try dsimp only at hSw); go_simp; try with_reducible rfl
    try simp only [Act.put, List.setIfInBounds_toArray, List.set_cons_zero, List.set_cons_succ]
    refine wpAnyH_take (i := 8) (oi := { dst := some 4, op := Op.assign (Operand.tmp 15), type := 9, pos := "text.go:21", after := #[{ on := 7, ground := Ground.data }, { on := 6, ground := Ground.chain }, { on := 0, ground := Ground.phase }, { on := 1, ground := Ground.phase }, { on := 2, ground := Ground.phase }, { on := 3, ground := Ground.phase }, { on := 4, ground := Ground.phase }, { on := 5, ground := Ground.phase }, { on := 6, ground := Ground.phase }, { on := 7, ground := Ground.phase }], guard := none }) (v := ?vn7k8) rfl (by kernel_rfl) (by kernel_rfl) (by kernel_rfl) (fun _ _ _ h => h) (Or.inl ⟨by kernel_rfl, ?yn7k8⟩) (by assumption) ?rn7k8
    case yn7k8 => intro w hSw; (try dsimp only at hSw); go_simp; try with_reducible rfl
    try simp only [Act.put, List.setIfInBounds_toArray, List.set_cons_zero, List.set_cons_succ]
    refine wpAnyH_done (by kernel_rfl) ?_ _
    clear hHeld
    clear BR1 BR2
    go_upto_region 4 with fail
    have HX3 := Lib.hid (show Below (w.heap.size + 1) w3 x2.drew from HX2.out.drew)
    have HY3 := Lib.hid (show Below w.heap.size w x2.drew from HY2.out.drew)
    have D3 := Lib.hid (show w.heap.size + 1 ≤ x2.drew.heap.size from D2.out)
    have S0 := SX.out _ HX3.out
    refine wp_region_held_drew (S := fun (wx : World) => wx.cell? ⟨w.heap.size, 0, none⟩ = some (.slice A lo.length c1) ∧ wx.cell? ⟨w.heap.size, 1, none⟩ = some (.slice B hi.length c2) ∧ wx.cell? ⟨w.heap.size, 2, none⟩ = some (.int .i64 (mn : Int)) ∧ wx.cell? ⟨w.heap.size, 3, none⟩ = some (.int .i64 (mx : Int))) (by kernel_rfl) S0 (fun hHeld => ?_)
    clear S0
    generalize x2.drew = x3 at *
    refine wpAnyH_take (i := 0) (oi := { dst := some 16, op := Op.move (Operand.tmp 4), type := 9, pos := "text.go:22", after := #[], guard := none }) (v := ?vn8k0) rfl (by kernel_rfl) (by kernel_rfl) (by kernel_rfl) (fun _ _ _ h => h) (Or.inl ⟨by kernel_rfl, ?yn8k0⟩) (by assumption) ?rn8k0
    case yn8k0 => intro w hSw; (try dsimp only at hSw); go_simp; try with_reducible rfl
    try simp only [Act.put, List.setIfInBounds_toArray, List.set_cons_zero, List.set_cons_succ]
    refine wpAnyH_take (i := 1) (oi := { dst := some 17, op := Op.binOp BinOp.add 9 (Operand.tmp 16) (Operand.const (Value.string { data := #[32, 35, 32] })) 9, type := 9, pos := "text.go:22", after := #[{ on := 0, ground := Ground.data }], guard := none }) (v := ?vn9k1) rfl (by kernel_rfl) (by kernel_rfl) (by kernel_rfl) (fun _ _ _ h => h) (Or.inl ⟨by kernel_rfl, ?yn9k1⟩) (by assumption) ?rn9k1
    case yn9k1 => intro w hSw; (try dsimp only at hSw); go_simp; try with_reducible rfl
    try simp only [Act.put, List.setIfInBounds_toArray, List.set_cons_zero, List.set_cons_succ]
    refine wpAnyH_take (i := 2) (oi := { dst := some 18, op := Op.fieldAddr 24 (Operand.tmp 1) 2, type := 0, pos := "text.go:22", after := #[], guard := none }) (v := ?vn10k2) rfl (by kernel_rfl) (by kernel_rfl) (by kernel_rfl) (fun _ _ _ h => h) (Or.inl ⟨by kernel_rfl, ?yn10k2⟩) (by assumption) ?rn10k2
    case yn10k2 => intro w hSw; (try dsimp only at hSw); go_simp; try with_reducible rfl
    try simp only [Act.put, List.setIfInBounds_toArray, List.set_cons_zero, List.set_cons_succ]
    refine wpAnyH_take (i := 3) (oi := { dst := some 19, op := Op.load 3 (Operand.tmp 18), type := 3, pos := "text.go:22", after := #[{ on := 2, ground := Ground.data }], guard := none }) (v := ?vn11k3) rfl (by kernel_rfl) (by kernel_rfl) (by kernel_rfl) (fun _ _ _ h => h) (Or.inl ⟨by kernel_rfl, ?yn11k3⟩) (by assumption) ?rn11k3
    case yn11k3 => intro w hSw; (try dsimp only at hSw); go_simp; try with_reducible rfl
    try simp only [Act.put, List.setIfInBounds_toArray, List.set_cons_zero, List.set_cons_succ]
    refine wpAnyH_take (i := 7) (oi := { dst := some 23, op := Op.fieldAddr 24 (Operand.tmp 1) 3, type := 0, pos := "text.go:22", after := #[], guard := none }) (v := ?vn12k7) rfl (by kernel_rfl) (by kernel_rfl) (by kernel_rfl) (fun _ _ _ h => h) (Or.inl ⟨by kernel_rfl, ?yn12k7⟩) (by assumption) ?rn12k7
    case yn12k7 => intro w hSw; (try dsimp only at hSw); go_simp; try with_reducible rfl
    try simp only [Act.put, List.setIfInBounds_toArray, List.set_cons_zero, List.set_cons_succ]
    refine wpAnyH_take (i := 8) (oi := { dst := some 24, op := Op.load 3 (Operand.tmp 23), type := 3, pos := "text.go:22", after := #[{ on := 7, ground := Ground.data }], guard := none }) (v := ?vn13k8) rfl (by kernel_rfl) (by kernel_rfl) (by kernel_rfl) (fun _ _ _ h => h) (Or.inl ⟨by kernel_rfl, ?yn13k8⟩) (by assumption) ?rn13k8
    case yn13k8 => intro w hSw; (try dsimp only at hSw); go_simp; try with_reducible rfl
    try simp only [Act.put, List.setIfInBounds_toArray, List.set_cons_zero, List.set_cons_succ]
    refine wpAnyH_ready (rs := [4]) (by kernel_rfl) (by simp) (AllReadyH.cons (o := { dst := some 20, op := Op.call { callee := Callee.value (Operand.func 15), args := #[Operand.tmp 19], argTypes := #[3] }, type := 9, pos := "text.go:22", after := #[{ on := 3, ground := Ground.data }], guard := none }) rfl (fun K hK => ?_) AllReadyH.nil)
    go_simp
    refine (DC1.out _).mono ?_
    rintro e x4 ⟨rfl, hb⟩
    have HX4 := Lib.hid (show Below (w.heap.size + 1) w3 x4 from HX3.out.trans (hb.mono D3.out))
    have HY4 := Lib.hid (show Below w.heap.size w x4 from HY3.out.trans (hb.mono HY3.out.size))
    have D4 := Lib.hid (show w.heap.size + 1 ≤ x4.heap.size from Nat.le_trans D3.out hb.size)
    have S4 := SX.out _ HX4.out
    clear hb hHeld
    refine hK.out _ _ S4 (fun hHeld => ?_)
    clear hK K S4
    try simp only [Act.put, List.setIfInBounds_toArray, List.set_cons_zero, List.set_cons_succ]
    refine wpAnyH_take (i := 5) (oi := { dst := some 21, op := Op.binOp BinOp.add 9 (Operand.tmp 17) (Operand.tmp 20) 9, type := 9, pos := "text.go:22", after := #[{ on := 1, ground := Ground.data }, { on := 4, ground := Ground.data }], guard := none }) (v := ?vn14k5) rfl (by kernel_rfl) (by kernel_rfl) (by kernel_rfl) (fun _ _ _ h => h) (Or.inl ⟨by kernel_rfl, ?yn14k5⟩) (by assumption) ?rn14k5
    case yn14k5 => intro w hSw; (try dsimp only at hSw); go_simp; try with_reducible rfl
    try simp only [Act.put, List.setIfInBounds_toArray, List.set_cons_zero, List.set_cons_succ]
    refine wpAnyH_take (i := 6) (oi := { dst := some 22, op := Op.binOp BinOp.add 9 (Operand.tmp 21) (Operand.const (Value.string { data := #[32, 46, 46, 32] })) 9, type := 9, pos := "text.go:22", after := #[{ on := 5, ground := Ground.data }], guard := none }) (v := ?vn15k6) rfl (by kernel_rfl) (by kernel_rfl) (by kernel_rfl) (fun _ _ _ h => h) (Or.inl ⟨by kernel_rfl, ?yn15k6⟩) (by assumption) ?rn15k6
    case yn15k6 => intro w hSw; (try dsimp only at hSw); go_simp; try with_reducible rfl
    try simp only [Act.put, List.setIfInBounds_toArray, List.set_cons_zero, List.set_cons_succ]
    refine wpAnyH_ready (rs := [9]) (by kernel_rfl) (by simp) (AllReadyH.cons (o := { dst := some 25, op := Op.call { callee := Callee.value (Operand.func 15), args := #[Operand.tmp 24], argTypes := #[3] }, type := 9, pos := "text.go:22", after := #[{ on := 8, ground := Ground.data }, { on := 4, ground := Ground.chain }], guard := none }) rfl (fun K hK => ?_) AllReadyH.nil)
    go_simp
    refine (DC2.out _).mono ?_
    rintro e x5 ⟨rfl, hb⟩
    have HX5 := Lib.hid (show Below (w.heap.size + 1) w3 x5 from HX4.out.trans (hb.mono D4.out))
    have HY5 := Lib.hid (show Below w.heap.size w x5 from HY4.out.trans (hb.mono HY4.out.size))
    have D5 := Lib.hid (show w.heap.size + 1 ≤ x5.heap.size from Nat.le_trans D4.out hb.size)
    have S5 := SX.out _ HX5.out
    clear hb hHeld
    refine hK.out _ _ S5 (fun hHeld => ?_)
    clear hK K S5
    try simp only [Act.put, List.setIfInBounds_toArray, List.set_cons_zero, List.set_cons_succ]
    refine wpAnyH_take (i := 10) (oi := { dst := some 26, op := Op.binOp BinOp.add 9 (Operand.tmp 22) (Operand.tmp 25) 9, type := 9, pos := "text.go:22", after := #[{ on := 6, ground := Ground.data }, { on := 9, ground := Ground.data }], guard := none }) (v := ?vn16k10) rfl (by kernel_rfl) (by kernel_rfl) (by kernel_rfl) (fun _ _ _ h => h) (Or.inl ⟨by kernel_rfl, ?yn16k10⟩) (by assumption) ?rn16k10
    case yn16k10 => intro w hSw; (try dsimp only at hSw); go_simp; try with_reducible rfl
    try simp only [Act.put, List.setIfInBounds_toArray, List.set_cons_zero, List.set_cons_succ]
    refine wpAnyH_take (i := 11) (oi := { dst := some 2, op := Op.assign (Operand.tmp 26), type := 9, pos := "text.go:22", after := #[{ on := 10, ground := Ground.data }, { on := 9, ground := Ground.chain }, { on := 0, ground := Ground.phase }, { on := 1, ground := Ground.phase }, { on := 2, ground := Ground.phase }, { on := 3, ground := Ground.phase }, { on := 4, ground := Ground.phase }, { on := 5, ground := Ground.phase }, { on := 6, ground := Ground.phase }, { on := 7, ground := Ground.phase }, { on := 8, ground := Ground.phase }, { on := 9, ground := Ground.phase }, { on := 10, ground := Ground.phase }], guard := none }) (v := ?vn17k11) rfl (by kernel_rfl) (by kernel_rfl) (by kernel_rfl) (fun _ _ _ h => h) (Or.inl ⟨by kernel_rfl, ?yn17k11⟩) (by assumption) ?rn17k11
    case yn17k11 => intro w hSw; (try dsimp only at hSw); go_simp; try with_reducible rfl
    try simp only [Act.put, List.setIfInBounds_toArray, List.set_cons_zero, List.set_cons_succ]
    refine wpAnyH_take (i := 12) (oi := { dst := some 3, op := Op.assign (Operand.const (Value.int IntKind.i64 0)), type := 27, pos := "text.go:22", after := #[{ on := 11, ground := Ground.chain }, { on := 0, ground := Ground.phase }, { on := 1, ground := Ground.phase }, { on := 2, ground := Ground.phase }, { on := 3, ground := Ground.phase }, { on := 4, ground := Ground.phase }, { on := 5, ground := Ground.phase }, { on := 6, ground := Ground.phase }, { on := 7, ground := Ground.phase }, { on := 8, ground := Ground.phase }, { on := 9, ground := Ground.phase }, { on := 10, ground := Ground.phase }, { on := 11, ground := Ground.phase }], guard := none }) (v := ?vn18k12) rfl (by kernel_rfl) (by kernel_rfl) (by kernel_rfl) (fun _ _ _ h => h) (Or.inl ⟨by kernel_rfl, ?yn18k12⟩) (by assumption) ?rn18k12
    case yn18k12 => intro w hSw; (try dsimp only at hSw); go_simp; try with_reducible rfl
    try simp only [Act.put, List.setIfInBounds_toArray, List.set_cons_zero, List.set_cons_succ]
    refine wpAnyH_done (by kernel_rfl) ?_ _
    clear hHeld
    go_wp2_with fail
    refine bodyPost_ret (v := .tuple #[.string (famL lo hi mn mx), .int .i64 0]) (by rw [FLH.out]; simp [results, Tryz.results6, go_sem]) rfl ?_
    exact ⟨rfl, HY5.out⟩
end Go.Proofs.YtcbjkclajkjicaaGreatDoor
