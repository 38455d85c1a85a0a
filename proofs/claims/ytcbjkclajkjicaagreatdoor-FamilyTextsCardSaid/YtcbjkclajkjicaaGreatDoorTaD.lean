/-
  A family's text: the document's Text, over its Normal and its Same.
-/
import Derived.Test.YtcbjkclajkjicaaGreatDoorTaB
import Derived.Laws.MakeOwn
import Derived.Test.YtcbjkclajkjicaaGreatDoorTaA
namespace Go.Proofs.YtcbjkclajkjicaaGreatDoor
set_option linter.unusedSimpArgs false
set_option linter.unusedVariables false
open Go Go.RowKit Go.Lib Go.Ev

/-- the bytes of a family's text -/
def famL (lo hi : List Int) (mn mx : Nat) : ByteArray := ((((strOfNums (listT lo) ++ ⟨#[32, 46, 46, 32]⟩) ++ strOfNums (listT hi) ++ ⟨#[32, 35, 32]⟩) ++ numB mn) ++ ⟨#[32, 46, 46, 32]⟩) ++ numB mx
theorem st_append (a b : List UInt8) : st (a ++ b) = st a ++ st b := by
  apply ByteArray.ext
  simp [st]
theorem famL_eq (lo hi : List Int) (mn mx : Nat) : famL lo hi mn mx = st (famT lo hi mn mx) := by
  unfold famL famT
  rw [← list_text, ← list_text]
  unfold db
  simp only [st_append, st_bytes, numB, ByteArray.append_assoc]
  rfl
/-- what a family's text is made of lies within its bounds -/
def InRange (lo hi : List Int) (mn mx : Int) : Prop := (∀ x ∈ lo, 0 ≤ x ∧ x < 100) ∧ (∀ x ∈ hi, 0 ≤ x ∧ x < 100) ∧ (0 ≤ mn ∧ mn < 100) ∧ (0 ≤ mx ∧ mx < 100) ∧ lo.length ≤ 65 ∧ hi.length ≤ 65
set_option maxRecDepth 100000 in
set_option maxHeartbeats 16000000 in
theorem TextD_any (lo hi : List Int) (mn mx : Int) (A B : Option Addr) (c1 c2 : Nat) (w : World) (ha : Ints w A lo) (hb : Ints w B hi)
    (er : Int) (sb : Bool) (RG : er = 0 → sb = true → InRange lo hi mn mx)
    (NR : ∀ w1, Below w.heap.size w w1 → Calls Tryz.prog 16 #[.agg #[.slice A lo.length c1, .slice B hi.length c2, .int .i64 mn, .int .i64 mx]] w1 fun e w' => (∃ A2 n1 d1 B2 n2 d2 m1 m2, e = .returned (.tuple #[.agg #[.slice A2 n1 d1, .slice B2 n2 d2, .int .i64 m1, .int .i64 m2], .int .i64 er]) ∧
      (er = 0 → ∀ w2, Below w'.heap.size w' w2 → Calls Tryz.prog 10 #[.agg #[.slice A2 n1 d1, .slice B2 n2 d2, .int .i64 m1, .int .i64 m2], .agg #[.slice A lo.length c1, .slice B hi.length c2, .int .i64 mn, .int .i64 mx]] w2 fun e w3 => e = .returned (.bool sb) ∧ Below w2.heap.size w2 w3)) ∧ Below w1.heap.size w1 w') :
    Calls Tryz.prog 7 #[.agg #[.slice A lo.length c1, .slice B hi.length c2, .int .i64 mn, .int .i64 mx]] w fun e w' => e = .returned (.tuple (if er = 0 ∧ sb = true then #[.string (famL lo hi mn.toNat mx.toNat), .int .i64 0] else #[.string ⟨#[]⟩, .int .i64 2])) ∧ Below w.heap.size w w' := by
  have NH := Lib.hid NR
  have HA := Lib.hid ha
  have HB := Lib.hid hb
  have RH := Lib.hid RG
  clear NR ha hb RG
  go_enter Tryz.func7, Tryz.ntmps7
  go_upto_region 1 with fail
  have BA := Lib.hid (show Below w.heap.size w (w.alloc (.cells #[.slice A lo.length c1, .slice B hi.length c2, .int .i64 mn, .int .i64 mx] 24)) from (Below.refl _ w).alloc (Nat.le_refl _) _)
  have FA := Lib.hid (show F4 (w.alloc (.cells #[.slice A lo.length c1, .slice B hi.length c2, .int .i64 mn, .int .i64 mx] 24)) w.heap.size (.slice A lo.length c1) (.slice B hi.length c2) (.int .i64 mn) (.int .i64 mx) from heap_alloc_new w (.cells #[.slice A lo.length c1, .slice B hi.length c2, .int .i64 mn, .int .i64 mx] 24))
  generalize w.alloc (.cells #[.slice A lo.length c1, .slice B hi.length c2, .int .i64 mn, .int .i64 mx] 24) = u at *
  obtain ⟨a0, a1, a2, a3, fa⟩ := FA.out.facts
  clear fa
  have NHu := Lib.hid (NH.out u BA.out)
  clear NH
  go_upto_region 2 with (go_at_call 16; refine NHu.out.mono ?_; rintro e w1 ⟨⟨A2, n1, d1, B2, n2, d2, m1, m2, rfl, hs⟩, hb⟩; have SH := Lib.hid hs; have B1 := Lib.hid (BA.out.trans (hb.mono BA.out.size)); have H1 := Lib.hid hb; clear a0 a1 a2 a3 hb hs NHu)
  replace B1 := Lib.hid (B1.out.alloc B1.out.size (.cells #[.slice A2 n1 d1, .slice B2 n2 d2, .int .i64 m1, .int .i64 m2] 24))
  have F1 := Lib.hid (show F4 (w1.alloc (.cells #[.slice A2 n1 d1, .slice B2 n2 d2, .int .i64 m1, .int .i64 m2] 24)) w.heap.size (.slice A lo.length c1) (.slice B hi.length c2) (.int .i64 mn) (.int .i64 mx) from FA.out.over (H1.out.alloc H1.out.size _))
  have F2 := Lib.hid (show F4 (w1.alloc (.cells #[.slice A2 n1 d1, .slice B2 n2 d2, .int .i64 m1, .int .i64 m2] 24)) w1.heap.size (.slice A2 n1 d1) (.slice B2 n2 d2) (.int .i64 m1) (.int .i64 m2) from heap_alloc_new w1 (.cells #[.slice A2 n1 d1, .slice B2 n2 d2, .int .i64 m1, .int .i64 m2] 24))
  replace SH := Lib.hid (fun h => SH.out h _ ((Below.refl _ w1).alloc (Nat.le_refl _) (.cells #[.slice A2 n1 d1, .slice B2 n2 d2, .int .i64 m1, .int .i64 m2] 24)))
  clear FA H1 BA
  generalize w1.alloc (.cells #[.slice A2 n1 d1, .slice B2 n2 d2, .int .i64 m1, .int .i64 m2] 24) = w2 at *
  obtain ⟨a0, a1, a2, a3, fa⟩ := F1.out.facts
  obtain ⟨e0, e1, e2, e3, fe⟩ := F2.out.facts
  clear fa fe F2
  by_cases hE : er = 0
  · have SM := Lib.hid (SH.out hE)
    clear SH
    cases sb with
    | false =>
      subst hE
      go_wp2_with (go_at_call 10; refine SM.out.mono ?_; rintro e w3 ⟨rfl, hb⟩; have B3 := Lib.hid (B1.out.trans (hb.mono B1.out.size)); clear a0 a1 a2 a3 e0 e1 e2 e3 hb SM)
      refine bodyPost_ret (v := .tuple #[.string ⟨#[]⟩, .int .i64 2]) (by simp [results, Tryz.results7, go_sem]) rfl ?_
      exact ⟨rfl, B3.out⟩
    | true =>
      subst hE
      go_upto_region 4 with (go_at_call 10; refine SM.out.mono ?_; rintro e w3 ⟨rfl, hb⟩; have B3 := Lib.hid (B1.out.trans (hb.mono B1.out.size)); have F3 := Lib.hid (F1.out.over hb); clear F1 a0 a1 a2 a3 e0 e1 e2 e3 hb SM)
      have SZ := Lib.hid (show w.heap.size + 1 ≤ w3.drew.heap.size from F3.out.lt)
      have SX := Lib.hid (show ∀ W, Below (w.heap.size + 1) w3 W → (fun (wx : World) => wx.cell? ⟨w.heap.size, 0, none⟩ = some (.slice A lo.length c1) ∧ wx.cell? ⟨w.heap.size, 1, none⟩ = some (.slice B hi.length c2) ∧ wx.cell? ⟨w.heap.size, 2, none⟩ = some (.int .i64 mn) ∧ wx.cell? ⟨w.heap.size, 3, none⟩ = some (.int .i64 mx)) W from fun W h => by
        have hh := (h.block w.heap.size (by omega)).trans F3.out
        refine ⟨?_, ?_, ?_, ?_⟩ <;> (simp only [World.cell?, hh]; rfl))
      have HX0 := Lib.hid (show Below (w.heap.size + 1) w3 w3.drew from (Below.refl _ w3).drew)
      have HY0 := Lib.hid (show Below w.heap.size w w3.drew from B3.out.drew)
      have D0 := Lib.hid (show w.heap.size + 1 ≤ w3.drew.heap.size from SZ.out)
      have S0 := SX.out _ HX0.out
      obtain ⟨x1, x2, ⟨y1, y1'⟩, ⟨y2, y2'⟩, l1, l2⟩ := RH.out (by simp) (by simp)
      obtain ⟨mn, rfl⟩ : ∃ n : Nat, mn = n := ⟨mn.toNat, by omega⟩
      obtain ⟨mx, rfl⟩ : ∃ n : Nat, mx = n := ⟨mx.toNat, by omega⟩
      have X := Lib.hid (And.intro x1 x2)
      clear x1 x2 RH
      simp only [Int.toNat_natCast] at *
      have BR1 := Lib.hid (fun w1 (h : Below w.heap.size w w1) => braces_any lo A c1 w1 (HA.out.over h) X.out.1)
      have BR2 := Lib.hid (fun w1 (h : Below w.heap.size w w1) => braces_any hi B c2 w1 (HB.out.over h) X.out.2)
      have DC1 := Lib.hid (fun w1 (h : Below w.heap.size w w1) => dec_any mn (by omega) w1)
      have DC2 := Lib.hid (fun w1 (h : Below w.heap.size w w1) => dec_any mx (by omega) w1)
      have z1 : (strOfNums (listT lo)).size ≤ 300 := by rw [strOfNums_size]; have := textK_length lo lo.length; unfold listT; simp only [List.length_append, List.length_singleton]; omega
      have z2 : (strOfNums (listT hi)).size ≤ 300 := by rw [strOfNums_size]; have := textK_length hi hi.length; unfold listT; simp only [List.length_append, List.length_singleton]; omega
      have z3 := numB_size mn
      have z4 := numB_size mx
      have FL : famL lo hi mn mx = ((((((strOfNums (listT lo) ++ ⟨#[32, 46, 46, 32]⟩) ++ strOfNums (listT hi)) ++ ⟨#[32, 35, 32]⟩) ++ numB mn) ++ ⟨#[32, 46, 46, 32]⟩) ++ numB mx) := rfl
      generalize strOfNums (listT lo) = s1 at *
      generalize strOfNums (listT hi) = s2 at *
      generalize numB mn = s3 at *
      generalize numB mx = s4 at *
      have FLH := Lib.hid FL
      clear FL
      have h1 : ¬ 9223372036854775807 < s1.size + 4 := by omega
      have h2 : ¬ 9223372036854775807 < s1.size + 4 + s2.size := by omega
      have h3 : ¬ 9223372036854775807 < s1.size + 4 + s2.size + 3 := by omega
      have h4 : ¬ 9223372036854775807 < s1.size + 4 + s2.size + 3 + s3.size := by omega
      have h5 : ¬ 9223372036854775807 < s1.size + 4 + s2.size + 3 + s3.size + 4 := by omega
      have h6 : ¬ 9223372036854775807 < s1.size + 4 + s2.size + 3 + s3.size + 4 + s4.size := by omega
      clear z1 z2 z3 z4
      refine wp_region_held_drew (S := fun (wx : World) => wx.cell? ⟨w.heap.size, 0, none⟩ = some (.slice A lo.length c1) ∧ wx.cell? ⟨w.heap.size, 1, none⟩ = some (.slice B hi.length c2) ∧ wx.cell? ⟨w.heap.size, 2, none⟩ = some (.int .i64 mn) ∧ wx.cell? ⟨w.heap.size, 3, none⟩ = some (.int .i64 mx)) (by kernel_rfl) S0 (fun hHeld => ?_)
      clear S0 SZ
      generalize w3.drew = V at *
      refine wpAnyH_take (i := 0) (oi := { dst := some 19, op := Op.fieldAddr 24 (Operand.tmp 1) 0, type := 0, pos := "ref.go:366", after := #[], guard := none }) (v := ?vn1k0) rfl (by kernel_rfl) (by kernel_rfl) (by kernel_rfl) (fun _ _ _ h => h) (Or.inl ⟨by kernel_rfl, ?yn1k0⟩) (by assumption) ?rn1k0
      case yn1k0 => intro w hSw; (try dsimp only at hSw); go_simp; try with_reducible rfl
      try simp only [Act.put, List.setIfInBounds_toArray, List.set_cons_zero, List.set_cons_succ]
      refine wpAnyH_take (i := 1) (oi := { dst := some 20, op := Op.load 22 (Operand.tmp 19), type := 22, pos := "ref.go:366", after := #[{ on := 0, ground := Ground.data }], guard := none }) (v := ?vn2k1) rfl (by kernel_rfl) (by kernel_rfl) (by kernel_rfl) (fun _ _ _ h => h) (Or.inl ⟨by kernel_rfl, ?yn2k1⟩) (by assumption) ?rn2k1
      case yn2k1 => intro w hSw; (try dsimp only at hSw); go_simp; try with_reducible rfl
      try simp only [Act.put, List.setIfInBounds_toArray, List.set_cons_zero, List.set_cons_succ]
      refine wpAnyH_take (i := 4) (oi := { dst := some 23, op := Op.fieldAddr 24 (Operand.tmp 1) 1, type := 0, pos := "ref.go:366", after := #[], guard := none }) (v := ?vn3k4) rfl (by kernel_rfl) (by kernel_rfl) (by kernel_rfl) (fun _ _ _ h => h) (Or.inl ⟨by kernel_rfl, ?yn3k4⟩) (by assumption) ?rn3k4
      case yn3k4 => intro w hSw; (try dsimp only at hSw); go_simp; try with_reducible rfl
      try simp only [Act.put, List.setIfInBounds_toArray, List.set_cons_zero, List.set_cons_succ]
      refine wpAnyH_take (i := 5) (oi := { dst := some 24, op := Op.load 22 (Operand.tmp 23), type := 22, pos := "ref.go:366", after := #[{ on := 4, ground := Ground.data }], guard := none }) (v := ?vn4k5) rfl (by kernel_rfl) (by kernel_rfl) (by kernel_rfl) (fun _ _ _ h => h) (Or.inl ⟨by kernel_rfl, ?yn4k5⟩) (by assumption) ?rn4k5
      case yn4k5 => intro w hSw; (try dsimp only at hSw); go_simp; try with_reducible rfl
      try simp only [Act.put, List.setIfInBounds_toArray, List.set_cons_zero, List.set_cons_succ]
      refine wpAnyH_take (i := 9) (oi := { dst := some 28, op := Op.fieldAddr 24 (Operand.tmp 1) 2, type := 0, pos := "ref.go:366", after := #[], guard := none }) (v := ?vn5k9) rfl (by kernel_rfl) (by kernel_rfl) (by kernel_rfl) (fun _ _ _ h => h) (Or.inl ⟨by kernel_rfl, ?yn5k9⟩) (by assumption) ?rn5k9
      case yn5k9 => intro w hSw; (try dsimp only at hSw); go_simp; try with_reducible rfl
      try simp only [Act.put, List.setIfInBounds_toArray, List.set_cons_zero, List.set_cons_succ]
      refine wpAnyH_take (i := 10) (oi := { dst := some 29, op := Op.load 3 (Operand.tmp 28), type := 3, pos := "ref.go:366", after := #[{ on := 9, ground := Ground.data }], guard := none }) (v := ?vn6k10) rfl (by kernel_rfl) (by kernel_rfl) (by kernel_rfl) (fun _ _ _ h => h) (Or.inl ⟨by kernel_rfl, ?yn6k10⟩) (by assumption) ?rn6k10
      case yn6k10 => intro w hSw; (try dsimp only at hSw); go_simp; try with_reducible rfl
      try simp only [Act.put, List.setIfInBounds_toArray, List.set_cons_zero, List.set_cons_succ]
      refine wpAnyH_take (i := 14) (oi := { dst := some 33, op := Op.fieldAddr 24 (Operand.tmp 1) 3, type := 0, pos := "ref.go:366", after := #[], guard := none }) (v := ?vn7k14) rfl (by kernel_rfl) (by kernel_rfl) (by kernel_rfl) (fun _ _ _ h => h) (Or.inl ⟨by kernel_rfl, ?yn7k14⟩) (by assumption) ?rn7k14
      case yn7k14 => intro w hSw; (try dsimp only at hSw); go_simp; try with_reducible rfl
      try simp only [Act.put, List.setIfInBounds_toArray, List.set_cons_zero, List.set_cons_succ]
      refine wpAnyH_take (i := 15) (oi := { dst := some 34, op := Op.load 3 (Operand.tmp 33), type := 3, pos := "ref.go:366", after := #[{ on := 14, ground := Ground.data }], guard := none }) (v := ?vn8k15) rfl (by kernel_rfl) (by kernel_rfl) (by kernel_rfl) (fun _ _ _ h => h) (Or.inl ⟨by kernel_rfl, ?yn8k15⟩) (by assumption) ?rn8k15
      case yn8k15 => intro w hSw; (try dsimp only at hSw); go_simp; try with_reducible rfl
      try simp only [Act.put, List.setIfInBounds_toArray, List.set_cons_zero, List.set_cons_succ]
      refine wpAnyH_ready (rs := [2]) (by kernel_rfl) (by simp) (AllReadyH.cons (o := { dst := some 21, op := Op.call { callee := Callee.value (Operand.func 17), args := #[Operand.tmp 20], argTypes := #[22] }, type := 9, pos := "ref.go:366", after := #[{ on := 1, ground := Ground.data }], guard := none }) rfl (fun K hK => ?_) AllReadyH.nil)
      go_simp
      refine (BR1.out _ HY0.out).mono ?_
      rintro e x1 ⟨rfl, hb⟩
      have HX1 := Lib.hid (show Below (w.heap.size + 1) w3 x1 from HX0.out.trans (hb.mono D0.out))
      have HY1 := Lib.hid (show Below w.heap.size w x1 from HY0.out.trans (hb.mono HY0.out.size))
      have D1 := Lib.hid (show w.heap.size + 1 ≤ x1.heap.size from Nat.le_trans D0.out hb.size)
      have S1 := SX.out _ HX1.out
      clear hb hHeld
      refine hK.out _ _ S1 (fun hHeld => ?_)
      clear hK K S1
      try simp only [Act.put, List.setIfInBounds_toArray, List.set_cons_zero, List.set_cons_succ]
      refine wpAnyH_take (i := 3) (oi := { dst := some 22, op := Op.binOp BinOp.add 9 (Operand.tmp 21) (Operand.const (Value.string { data := #[32, 46, 46, 32] })) 9, type := 9, pos := "ref.go:366", after := #[{ on := 2, ground := Ground.data }], guard := none }) (v := ?vn9k3) rfl (by kernel_rfl) (by kernel_rfl) (by kernel_rfl) (fun _ _ _ h => h) (Or.inl ⟨by kernel_rfl, ?yn9k3⟩) (by assumption) ?rn9k3
      case yn9k3 => intro w hSw; (try dsimp only at hSw); go_simp; try with_reducible rfl
      try simp only [Act.put, List.setIfInBounds_toArray, List.set_cons_zero, List.set_cons_succ]
      refine wpAnyH_ready (rs := [6]) (by kernel_rfl) (by simp) (AllReadyH.cons (o := { dst := some 25, op := Op.call { callee := Callee.value (Operand.func 17), args := #[Operand.tmp 24], argTypes := #[22] }, type := 9, pos := "ref.go:366", after := #[{ on := 5, ground := Ground.data }, { on := 2, ground := Ground.chain }], guard := none }) rfl (fun K hK => ?_) AllReadyH.nil)
      go_simp
      refine (BR2.out _ HY1.out).mono ?_
      rintro e x2 ⟨rfl, hb⟩
      have HX2 := Lib.hid (show Below (w.heap.size + 1) w3 x2 from HX1.out.trans (hb.mono D1.out))
      have HY2 := Lib.hid (show Below w.heap.size w x2 from HY1.out.trans (hb.mono HY1.out.size))
      have D2 := Lib.hid (show w.heap.size + 1 ≤ x2.heap.size from Nat.le_trans D1.out hb.size)
      have S2 := SX.out _ HX2.out
      clear hb hHeld
      refine hK.out _ _ S2 (fun hHeld => ?_)
      clear hK K S2
      try simp only [Act.put, List.setIfInBounds_toArray, List.set_cons_zero, List.set_cons_succ]
      refine wpAnyH_take (i := 7) (oi := { dst := some 26, op := Op.binOp BinOp.add 9 (Operand.tmp 22) (Operand.tmp 25) 9, type := 9, pos := "ref.go:366", after := #[{ on := 3, ground := Ground.data }, { on := 6, ground := Ground.data }], guard := none }) (v := ?vn10k7) rfl (by kernel_rfl) (by kernel_rfl) (by kernel_rfl) (fun _ _ _ h => h) (Or.inl ⟨by kernel_rfl, ?yn10k7⟩) (by assumption) ?rn10k7
      case yn10k7 => intro w hSw; (try dsimp only at hSw); go_simp; try with_reducible rfl
      try simp only [Act.put, List.setIfInBounds_toArray, List.set_cons_zero, List.set_cons_succ]
      refine wpAnyH_take (i := 8) (oi := { dst := some 27, op := Op.binOp BinOp.add 9 (Operand.tmp 26) (Operand.const (Value.string { data := #[32, 35, 32] })) 9, type := 9, pos := "ref.go:366", after := #[{ on := 7, ground := Ground.data }], guard := none }) (v := ?vn11k8) rfl (by kernel_rfl) (by kernel_rfl) (by kernel_rfl) (fun _ _ _ h => h) (Or.inl ⟨by kernel_rfl, ?yn11k8⟩) (by assumption) ?rn11k8
      case yn11k8 => intro w hSw; (try dsimp only at hSw); go_simp; try with_reducible rfl
      try simp only [Act.put, List.setIfInBounds_toArray, List.set_cons_zero, List.set_cons_succ]
      refine wpAnyH_ready (rs := [11]) (by kernel_rfl) (by simp) (AllReadyH.cons (o := { dst := some 30, op := Op.call { callee := Callee.value (Operand.func 18), args := #[Operand.tmp 29], argTypes := #[3] }, type := 9, pos := "ref.go:366", after := #[{ on := 10, ground := Ground.data }, { on := 6, ground := Ground.chain }], guard := none }) rfl (fun K hK => ?_) AllReadyH.nil)
      go_simp
      refine (DC1.out _ HY2.out).mono ?_
      rintro e x3 ⟨rfl, hb⟩
      have HX3 := Lib.hid (show Below (w.heap.size + 1) w3 x3 from HX2.out.trans (hb.mono D2.out))
      have HY3 := Lib.hid (show Below w.heap.size w x3 from HY2.out.trans (hb.mono HY2.out.size))
      have D3 := Lib.hid (show w.heap.size + 1 ≤ x3.heap.size from Nat.le_trans D2.out hb.size)
      have S3 := SX.out _ HX3.out
      clear hb hHeld
      refine hK.out _ _ S3 (fun hHeld => ?_)
      clear hK K S3
      try simp only [Act.put, List.setIfInBounds_toArray, List.set_cons_zero, List.set_cons_succ]
      refine wpAnyH_take (i := 12) (oi := { dst := some 31, op := Op.binOp BinOp.add 9 (Operand.tmp 27) (Operand.tmp 30) 9, type := 9, pos := "ref.go:366", after := #[{ on := 8, ground := Ground.data }, { on := 11, ground := Ground.data }], guard := none }) (v := ?vn12k12) rfl (by kernel_rfl) (by kernel_rfl) (by kernel_rfl) (fun _ _ _ h => h) (Or.inl ⟨by kernel_rfl, ?yn12k12⟩) (by assumption) ?rn12k12
      case yn12k12 => intro w hSw; (try dsimp only at hSw); go_simp; try with_reducible rfl
      try simp only [Act.put, List.setIfInBounds_toArray, List.set_cons_zero, List.set_cons_succ]
      refine wpAnyH_take (i := 13) (oi := { dst := some 32, op := Op.binOp BinOp.add 9 (Operand.tmp 31) (Operand.const (Value.string { data := #[32, 46, 46, 32] })) 9, type := 9, pos := "ref.go:366", after := #[{ on := 12, ground := Ground.data }], guard := none }) (v := ?vn13k13) rfl (by kernel_rfl) (by kernel_rfl) (by kernel_rfl) (fun _ _ _ h => h) (Or.inl ⟨by kernel_rfl, ?yn13k13⟩) (by assumption) ?rn13k13
      case yn13k13 => intro w hSw; (try dsimp only at hSw); go_simp; try with_reducible rfl
      try simp only [Act.put, List.setIfInBounds_toArray, List.set_cons_zero, List.set_cons_succ]
      refine wpAnyH_ready (rs := [16]) (by kernel_rfl) (by simp) (AllReadyH.cons (o := { dst := some 35, op := Op.call { callee := Callee.value (Operand.func 18), args := #[Operand.tmp 34], argTypes := #[3] }, type := 9, pos := "ref.go:366", after := #[{ on := 15, ground := Ground.data }, { on := 11, ground := Ground.chain }], guard := none }) rfl (fun K hK => ?_) AllReadyH.nil)
      go_simp
      refine (DC2.out _ HY3.out).mono ?_
      rintro e x4 ⟨rfl, hb⟩
      have HX4 := Lib.hid (show Below (w.heap.size + 1) w3 x4 from HX3.out.trans (hb.mono D3.out))
      have HY4 := Lib.hid (show Below w.heap.size w x4 from HY3.out.trans (hb.mono HY3.out.size))
      have D4 := Lib.hid (show w.heap.size + 1 ≤ x4.heap.size from Nat.le_trans D3.out hb.size)
      have S4 := SX.out _ HX4.out
      clear hb hHeld
      refine hK.out _ _ S4 (fun hHeld => ?_)
      clear hK K S4
      try simp only [Act.put, List.setIfInBounds_toArray, List.set_cons_zero, List.set_cons_succ]
      refine wpAnyH_take (i := 17) (oi := { dst := some 36, op := Op.binOp BinOp.add 9 (Operand.tmp 32) (Operand.tmp 35) 9, type := 9, pos := "ref.go:366", after := #[{ on := 13, ground := Ground.data }, { on := 16, ground := Ground.data }], guard := none }) (v := ?vn14k17) rfl (by kernel_rfl) (by kernel_rfl) (by kernel_rfl) (fun _ _ _ h => h) (Or.inl ⟨by kernel_rfl, ?yn14k17⟩) (by assumption) ?rn14k17
      case yn14k17 => intro w hSw; (try dsimp only at hSw); go_simp; try with_reducible rfl
      try simp only [Act.put, List.setIfInBounds_toArray, List.set_cons_zero, List.set_cons_succ]
      refine wpAnyH_take (i := 18) (oi := { dst := some 2, op := Op.assign (Operand.tmp 36), type := 9, pos := "ref.go:366", after := #[{ on := 17, ground := Ground.data }, { on := 16, ground := Ground.chain }, { on := 0, ground := Ground.phase }, { on := 1, ground := Ground.phase }, { on := 2, ground := Ground.phase }, { on := 3, ground := Ground.phase }, { on := 4, ground := Ground.phase }, { on := 5, ground := Ground.phase }, { on := 6, ground := Ground.phase }, { on := 7, ground := Ground.phase }, { on := 8, ground := Ground.phase }, { on := 9, ground := Ground.phase }, { on := 10, ground := Ground.phase }, { on := 11, ground := Ground.phase }, { on := 12, ground := Ground.phase }, { on := 13, ground := Ground.phase }, { on := 14, ground := Ground.phase }, { on := 15, ground := Ground.phase }, { on := 16, ground := Ground.phase }, { on := 17, ground := Ground.phase }], guard := none }) (v := ?vn15k18) rfl (by kernel_rfl) (by kernel_rfl) (by kernel_rfl) (fun _ _ _ h => h) (Or.inl ⟨by kernel_rfl, ?yn15k18⟩) (by assumption) ?rn15k18
      case yn15k18 => intro w hSw; (try dsimp only at hSw); go_simp; try with_reducible rfl
      try simp only [Act.put, List.setIfInBounds_toArray, List.set_cons_zero, List.set_cons_succ]
      refine wpAnyH_take (i := 19) (oi := { dst := some 3, op := Op.assign (Operand.const (Value.int IntKind.i64 0)), type := 27, pos := "ref.go:366", after := #[{ on := 18, ground := Ground.chain }, { on := 0, ground := Ground.phase }, { on := 1, ground := Ground.phase }, { on := 2, ground := Ground.phase }, { on := 3, ground := Ground.phase }, { on := 4, ground := Ground.phase }, { on := 5, ground := Ground.phase }, { on := 6, ground := Ground.phase }, { on := 7, ground := Ground.phase }, { on := 8, ground := Ground.phase }, { on := 9, ground := Ground.phase }, { on := 10, ground := Ground.phase }, { on := 11, ground := Ground.phase }, { on := 12, ground := Ground.phase }, { on := 13, ground := Ground.phase }, { on := 14, ground := Ground.phase }, { on := 15, ground := Ground.phase }, { on := 16, ground := Ground.phase }, { on := 17, ground := Ground.phase }, { on := 18, ground := Ground.phase }], guard := none }) (v := ?vn16k19) rfl (by kernel_rfl) (by kernel_rfl) (by kernel_rfl) (fun _ _ _ h => h) (Or.inl ⟨by kernel_rfl, ?yn16k19⟩) (by assumption) ?rn16k19
      case yn16k19 => intro w hSw; (try dsimp only at hSw); go_simp; try with_reducible rfl
      try simp only [Act.put, List.setIfInBounds_toArray, List.set_cons_zero, List.set_cons_succ]
      refine wpAnyH_done (by kernel_rfl) ?_ _
      clear hHeld
      go_wp2_with fail
      refine bodyPost_ret (v := .tuple #[.string (famL lo hi mn mx), .int .i64 0]) (by rw [FLH.out]; simp [results, Tryz.results7, go_sem]) rfl ?_
      exact ⟨rfl, HY4.out⟩
  · have hE2 : (er == 0) = false := by simpa using hE
    go_wp2_with fail
    refine bodyPost_ret (v := .tuple #[.string ⟨#[]⟩, .int .i64 2]) (by simp [results, Tryz.results7, go_sem]) rfl ?_
    exact ⟨rfl, B1.out⟩
end Go.Proofs.YtcbjkclajkjicaaGreatDoor

/-
  A family's text: the program's setText, over any contract of Join.
-/
namespace Go.Proofs.YtcbjkclajkjicaaGreatDoor
set_option linter.unusedSimpArgs false
set_option linter.unusedVariables false
open Go Go.RowKit Go.Lib Go.Ev

theorem infoStr : (Tryz.prog.info? 9).map (fun i => (i.zero, i.size, i.bytes)) = some (some (.string ⟨#[]⟩), 1, 16) := by kernel_rfl
theorem make_strs (n : Nat) (hn : n ≤ 1000000) (w : World) : (Instr.makeSlice 62 (.int .i64 (n : Int)) (.int .i64 (n : Int))).run Tryz.prog w = .ok (.slice (some ⟨w.heap.size, 0, none⟩) n n) (w.alloc (.cells (madeCells #[.string ⟨#[]⟩] n) 9)) := by
  obtain ⟨i, hi, hz, hs, hb⟩ := info_parts infoStr
  have hr := run_make (P := Tryz.prog) w 62 9 i _ Tryz.underlying62 hi hz .i64 .i64 n n (by omega) (Int.le_refl _) (by rw [hb]; omega) (by omega)
  simp only [Int.toNat_natCast, hs, Nat.mul_one] at hr
  exact hr
/-- the words of a list that is written up to k -/
def WordsAt (w : World) (g n : Nat) (l : List Int) (k : Nat) : Prop := ∃ cs, w.heap[g]? = some (.cells cs 9 (0, 0)) ∧ cs.size = n ∧ ∀ j, j < k → cs[j]? = some (.string (numB (l.getD j 0).toNat))
theorem WordsAt.step {w : World} {g n : Nat} {l : List Int} {k : Nat} (h : WordsAt w g n l k) (hk : k < n) :
    WordsAt (w.setCell ⟨g, k, none⟩ (.string (numB (l.getD k 0).toNat))) g n l (k + 1) := by
  obtain ⟨cs, h1, h2, h3⟩ := h
  refine ⟨_, Go.heap_setCell_same _ g k _ _ _ h1, by simp [h2], fun j hj => ?_⟩
  by_cases e : j = k
  · subst e
    simp [h2, hk]
  · rw [Array.getElem?_setIfInBounds_ne (by omega)]
    exact h3 j (by omega)
theorem WordsAt.cells {w : World} {g n : Nat} {l : List Int} {k : Nat} (h : WordsAt w g n l k) {j : Nat} (hj : j < k) : w.cell? ⟨g, j, none⟩ = some (.string (numB (l.getD j 0).toNat)) := by
  obtain ⟨cs, h1, h2, h3⟩ := h
  simp only [World.cell?, h1]
  exact h3 j hj
theorem listB_st (l : List Int) : st (listB l) = ⟨#[123]⟩ ++ st (joinB l) ++ ⟨#[125]⟩ := by
  unfold listB
  rw [show (123 :: (joinB l ++ [125]) : List UInt8) = [123] ++ joinB l ++ [125] from rfl, st_append, st_append]
  rfl
theorem joinB_size (l : List Int) (hn : l.length ≤ 100) : (st (joinB l)).size ≤ 1000 := by
  rw [st_size]
  have h := congrArg List.length (list_text l)
  have h2 := textK_length l l.length
  unfold listT listB bytesI at h
  simp only [List.length_map, List.length_append, List.length_cons, List.length_nil] at h
  omega
set_option maxRecDepth 100000 in
set_option maxHeartbeats 8000000 in
theorem setText_any (l : List Int) (A : Option Addr) (c : Nat) (w : World) (ha : Ints w A l) (hr : ∀ x ∈ l, 0 ≤ x ∧ x < 100) (hn : l.length ≤ 100)
    (JN : ∀ g w1, (∀ j, j < l.length → w1.cell? ⟨g, j, none⟩ = some (.string (numB (l.getD j 0).toNat))) → g < w1.heap.size → Calls Tryz.prog 31 #[.slice (some ⟨g, 0, none⟩) l.length l.length, .string ⟨#[32]⟩] w1 fun e w' => e = .returned (.string (st (joinB l))) ∧ Below w1.heap.size w1 w') :
    Calls Tryz.prog 14 #[.slice A l.length c] w fun e w' => e = .returned (.string (st (listB l))) ∧ Below w.heap.size w w' := by
  have hl1 := ha.1
  have HA := Lib.hid ha
  have HR := Lib.hid hr
  have HJ := Lib.hid JN
  have mb := make_strs l.length (by omega) w
  clear ha hr JN
  go_enter Tryz.func14, Tryz.ntmps14
  go_wp2_with fail
  clear mb
  have R0 := Lib.hid (show WordsAt (w.alloc (.cells (madeCells #[.string ⟨#[]⟩] l.length) 9)) w.heap.size l.length l 0 from ⟨_, heap_alloc_new _ _, size_madeCells _ _, fun j hj => absurd hj (Nat.not_lt_zero _)⟩)
  have B0 := Lib.hid (show Below w.heap.size w (w.alloc (.cells (madeCells #[.string ⟨#[]⟩] l.length) 9)) from (Below.refl _ w).alloc (Nat.le_refl _) _)
  have S0 := Lib.hid (show w.heap.size < (w.alloc (.cells (madeCells #[.string ⟨#[]⟩] l.length) 9)).heap.size from by simp)
  generalize (w.alloc (.cells (madeCells #[.string ⟨#[]⟩] l.length) 9)) = u at *
  obtain ⟨g, hg⟩ : ∃ x, x = w.heap.size := ⟨_, rfl⟩
  have HG := Lib.hid hg
  have R1 := Lib.hid (show WordsAt u g l.length l 0 from by rw [hg]; exact R0.out)
  rw [← hg]
  clear hg R0
  go_loopw [11] (fun i wr => ∃ k : Nat, k ≤ l.length ∧ i = .int .i64 k ∧ WordsAt wr g l.length l k ∧ Below w.heap.size w wr ∧ g < wr.heap.size) (fun i _ => l.length - (intOf i).toNat)
  case atStart => exact ⟨0, Nat.zero_le _, rfl, R1.out, B0.out, by rw [HG.out]; exact S0.out⟩
  case round =>
    obtain ⟨k, hk, rfl, hw, hbw, hgl⟩ := hrel
    obtain ⟨w1, rfl⟩ : ∃ x, x = wr := ⟨_, rfl⟩
    have BW := Lib.hid hbw
    have RW := Lib.hid hw
    have GL := Lib.hid hgl
    clear hbw hw hgl R1 B0 S0
    by_cases hlt : k < l.length
    · obtain ⟨b, o, eA, hb, hc⟩ := HA.out.2.2 (by omega)
      have x1 := (BW.out.cell (p := ⟨b, o + k, none⟩) hb).trans (hc k hlt)
      have hx := HR.out _ (List.getElem_mem hlt)
      have EA := Lib.hid eA
      have GD := Lib.hid (show l.getD k 0 = l[k] from by rw [List.getD_eq_getElem?_getD, List.getElem?_eq_getElem hlt]; rfl)
      clear hb hc eA
      generalize l[k] = x at *
      obtain rfl := EA.out
      obtain ⟨n, rfl⟩ : ∃ n : Nat, x = n := ⟨x.toNat, by omega⟩
      have DC := Lib.hid (fun w1 => itoa_any n (by omega) w1)
      have z1 : (k : Int) < (l.length : Int) := by omega
      have z2 : (0 : Int) ≤ (k : Int) := by omega
      have RS := Lib.hid (show WordsAt (w1.setCell ⟨g, k, none⟩ (.string (numB n))) g l.length l (k + 1) from by have := RW.out.step hlt; rwa [GD.out, Int.toNat_natCast] at this)
      have c0 : ∃ v, w1.cell? ⟨g, k, none⟩ = some v := by
        obtain ⟨cs, h1, h2, h3⟩ := RW.out
        simp only [World.cell?, h1]
        exact ⟨_, Array.getElem?_eq_getElem (by omega)⟩
      have f0 : w1.frozen? ⟨g, k, none⟩ = false := by
        obtain ⟨cs, h1, h2, h3⟩ := RW.out
        simp [World.frozen?, h1]
      obtain ⟨v0, c0⟩ := c0
      clear hx
      go_wp2_with (go_at_call 15; refine (DC.out _).mono ?_; rintro e w2 ⟨rfl, rfl⟩; clear DC)
      go_roundw
      case rel => exact ⟨k + 1, by omega, by go_num, RS.out, BW.out.setCell (p := ⟨g, k, none⟩) (by rw [HG.out]; exact Nat.le_refl _) _, by have := GL.out; simpa using this⟩
      case measure => simp [intOf]; omega
    · obtain rfl : k = l.length := by omega
      have HJ2 := Lib.hid (HJ.out g w1 (fun j hj => RW.out.cells hj) GL.out)
      have hsz := joinB_size l hn
      have h1 : ¬ 9223372036854775807 < 1 + (st (joinB l)).size := by omega
      have h2 : ¬ 9223372036854775807 < 1 + (st (joinB l)).size + 1 := by omega
      have LB := Lib.hid (show st (listB l) = ⟨#[123]⟩ ++ st (joinB l) ++ ⟨#[125]⟩ from listB_st l)
      clear hsz HJ
      generalize st (joinB l) = s at *
      go_wp2_with (go_at_call 31; refine HJ2.out.mono ?_; rintro e w2 ⟨rfl, hb⟩; have B2 := Lib.hid (BW.out.trans (hb.mono BW.out.size)); clear hb HJ2)
      go_ret
      exact ⟨by rw [LB.out]; rfl, B2.out⟩
end Go.Proofs.YtcbjkclajkjicaaGreatDoor
