/-
  Whether a family is in normal form: the program's.
-/
import Derived.Test.YtcbjkclajkjicaaGreatDoorTxS
namespace Go.Proofs.YtcbjkclajkjicaaGreatDoor
set_option linter.unusedSimpArgs false
set_option linter.unusedVariables false
open Go Go.RowKit Go.Lib Go.Ev

/-- whether bounds are in normal form -/
def normB (L H : Nat) (mn mx : Int) : Bool := okN L H mn mx && decide ((nlo L H mn : Int) = (L : Int) ∧ (nhi L H mn mx : Int) = (H : Int) ∧ nmn L mn = mn ∧ nmx H mx = mx)
set_option maxRecDepth 100000 in
set_option maxHeartbeats 8000000 in
theorem isNormal_bad (lo hi : List Int) (mn mx : Int) (A B : Option Addr) (c1 c2 : Nat) (w : World) (ha : Ints w A lo) (hb : Ints w B hi) (hV : validFB lo hi mn mx = false) :
    Calls Tryz.prog 13 #[.agg #[.slice A lo.length c1, .slice B hi.length c2, .int .i64 mn, .int .i64 mx]] w fun e w' => e = .returned (.bool false) ∧ Below w.heap.size w w' := by
  have VP := Lib.hid (fun w1 (h : Below w.heap.size w w1) => FValid_p_any lo hi mn mx A B c1 c2 w1 (ha.over h) (hb.over h))
  rw [hV] at VP
  have hl1 := ha.1
  have hl2 := hb.1
  clear ha hb hV
  generalize lo.length = n1 at *
  generalize hi.length = n2 at *
  go_enter Tryz.func13, Tryz.ntmps13
  go_upto_region 1 with fail
  have BA := Lib.hid (show Below w.heap.size w (w.alloc (.cells #[.slice A n1 c1, .slice B n2 c2, .int .i64 mn, .int .i64 mx] 24)) from (Below.refl _ w).alloc (Nat.le_refl _) _)
  have FA := Lib.hid (show ∀ wx : World, Below (w.heap.size + 1) (w.alloc (.cells #[.slice A n1 c1, .slice B n2 c2, .int .i64 mn, .int .i64 mx] 24)) wx → wx.cell? ⟨w.heap.size, 0, none⟩ = some (.slice A n1 c1) ∧ wx.cell? ⟨w.heap.size, 1, none⟩ = some (.slice B n2 c2) ∧ wx.cell? ⟨w.heap.size, 2, none⟩ = some (.int .i64 mn) ∧ wx.cell? ⟨w.heap.size, 3, none⟩ = some (.int .i64 mx) from fun wx h => by
    have hh := (h.block w.heap.size (by omega)).trans (heap_alloc_new w (.cells #[.slice A n1 c1, .slice B n2 c2, .int .i64 mn, .int .i64 mx] 24))
    refine ⟨?_, ?_, ?_, ?_⟩ <;> (simp only [World.cell?, hh]; rfl))
  have SZ := Lib.hid (show w.heap.size + 1 ≤ (w.alloc (.cells #[.slice A n1 c1, .slice B n2 c2, .int .i64 mn, .int .i64 mx] 24)).heap.size from by simp)
  generalize (w.alloc (.cells #[.slice A n1 c1, .slice B n2 c2, .int .i64 mn, .int .i64 mx] 24)) = u at *
  obtain ⟨a0, a1, a2, a3⟩ := FA.out u (Below.refl _ _)
  go_wp2_with (go_at_call 30; refine (VP.out _ BA.out).mono ?_; rintro e w3 ⟨rfl, hb⟩; have B3 := Lib.hid (BA.out.trans (hb.mono BA.out.size)); clear a0 a1 a2 a3 hb VP)
  go_ret
  exact ⟨rfl, B3.out⟩
set_option maxRecDepth 100000 in
set_option maxHeartbeats 8000000 in
theorem isNormal_no (lo hi : List Int) (mn mx : Int) (A B : Option Addr) (c1 c2 : Nat) (w : World) (ha : Ints w A lo) (hb : Ints w B hi) (hV : validFB lo hi mn mx = true) (hk : okN (setN lo) (setN hi) mn mx = false) :
    Calls Tryz.prog 13 #[.agg #[.slice A lo.length c1, .slice B hi.length c2, .int .i64 mn, .int .i64 mx]] w fun e w' => e = .returned (.bool false) ∧ Below w.heap.size w w' := by
  have VP := Lib.hid (fun w1 (h : Below w.heap.size w w1) => FValid_p_any lo hi mn mx A B c1 c2 w1 (ha.over h) (hb.over h))
  rw [hV] at VP
  obtain ⟨hr1, hr2⟩ : lo.all inR = true ∧ hi.all inR = true := by
    unfold validFB elemsB at hV
    simp only [Bool.and_eq_true] at hV
    exact ⟨hV.1.1.1.2, hV.1.1.2.2⟩
  have BO := Lib.hid (fun w1 (h : Below w.heap.size w w1) => boundsOf_any lo hi mn mx A B c1 c2 w1 (ha.over h) (hb.over h) hr1 hr2)
  have hL : setN lo < 18446744073709551616 := setN_lt hr1
  have hH : setN hi < 18446744073709551616 := setN_lt hr2
  have NO := Lib.hid (fun g w1 (h : Bd w1 g (setN lo) (setN hi) mn mx) => normalize_any g (setN lo) (setN hi) mn mx w1 h hL hH)
  unfold NormOk at NO
  rw [hk] at NO
  clear hL hH hr1 hr2 hk
  have hl1 := ha.1
  have hl2 := hb.1
  clear ha hb hV
  generalize lo.length = n1 at *
  generalize hi.length = n2 at *
  generalize setN lo = L at *
  generalize setN hi = H at *
  go_enter Tryz.func13, Tryz.ntmps13
  go_upto_region 1 with fail
  have BA := Lib.hid (show Below w.heap.size w (w.alloc (.cells #[.slice A n1 c1, .slice B n2 c2, .int .i64 mn, .int .i64 mx] 24)) from (Below.refl _ w).alloc (Nat.le_refl _) _)
  have FA := Lib.hid (show ∀ wx : World, Below (w.heap.size + 1) (w.alloc (.cells #[.slice A n1 c1, .slice B n2 c2, .int .i64 mn, .int .i64 mx] 24)) wx → wx.cell? ⟨w.heap.size, 0, none⟩ = some (.slice A n1 c1) ∧ wx.cell? ⟨w.heap.size, 1, none⟩ = some (.slice B n2 c2) ∧ wx.cell? ⟨w.heap.size, 2, none⟩ = some (.int .i64 mn) ∧ wx.cell? ⟨w.heap.size, 3, none⟩ = some (.int .i64 mx) from fun wx h => by
    have hh := (h.block w.heap.size (by omega)).trans (heap_alloc_new w (.cells #[.slice A n1 c1, .slice B n2 c2, .int .i64 mn, .int .i64 mx] 24))
    refine ⟨?_, ?_, ?_, ?_⟩ <;> (simp only [World.cell?, hh]; rfl))
  have SZ := Lib.hid (show w.heap.size + 1 ≤ (w.alloc (.cells #[.slice A n1 c1, .slice B n2 c2, .int .i64 mn, .int .i64 mx] 24)).heap.size from by simp)
  generalize (w.alloc (.cells #[.slice A n1 c1, .slice B n2 c2, .int .i64 mn, .int .i64 mx] 24)) = u at *
  obtain ⟨a0, a1, a2, a3⟩ := FA.out u (Below.refl _ _)
  go_upto_region 3 with (go_at_call 30; refine (VP.out _ BA.out).mono ?_; rintro e w3 ⟨rfl, hb⟩; have B3 := Lib.hid (BA.out.trans (hb.mono BA.out.size)); have K3 := Lib.hid (show Below (w.heap.size + 1) u w3 from hb.mono SZ.out); have Z3 := Lib.hid (Nat.le_trans SZ.out hb.size); clear a0 a1 a2 a3 hb VP)
  obtain ⟨a0, a1, a2, a3⟩ := FA.out _ K3.out
  go_upto_region 4 with (go_at_call 26; refine (BO.out _ B3.out).mono ?_; rintro e w4 ⟨rfl, hb⟩; have B4 := Lib.hid (B3.out.trans (hb.mono B3.out.size)); have K4 := Lib.hid (show Below (w.heap.size + 1) u w4 from K3.out.trans (hb.mono Z3.out)); have Z4 := Lib.hid (Nat.le_trans Z3.out hb.size); clear a0 a1 a2 a3 hb)
  have BD := Lib.hid (show Bd (w4.alloc (.cells #[.int .u64 (L : Int), .int .u64 (H : Int), .int .i64 mn, .int .i64 mx] 58)) w4.heap.size L H mn mx from heap_alloc_new w4 _)
  replace B4 := Lib.hid (B4.out.alloc B4.out.size (.cells #[.int .u64 (L : Int), .int .u64 (H : Int), .int .i64 mn, .int .i64 mx] 58))
  replace K4 := Lib.hid (K4.out.alloc Z4.out (.cells #[.int .u64 (L : Int), .int .u64 (H : Int), .int .i64 mn, .int .i64 mx] 58))
  have Z5 := Lib.hid (show w4.heap.size + 1 ≤ (w4.alloc (.cells #[.int .u64 (L : Int), .int .u64 (H : Int), .int .i64 mn, .int .i64 mx] 58)).heap.size from by simp)
  generalize (w4.alloc (.cells #[.int .u64 (L : Int), .int .u64 (H : Int), .int .i64 mn, .int .i64 mx] 58)) = V at *
  obtain ⟨g, hg⟩ : ∃ g, w4.heap.size = g := ⟨_, rfl⟩
  rw [hg] at BD Z4 Z5 ⊢
  have BV := Lib.hid (show Below w.heap.size w V.drew from B4.out.drew)
  have KV := Lib.hid (show Below (w.heap.size + 1) u V.drew from K4.out.drew)
  have DV := Lib.hid (show Bd V.drew g L H mn mx from BD.out)
  have ZV := Lib.hid (show g + 1 ≤ V.drew.heap.size from Z5.out)
  have S0 : (fun wx : World => wx.cell? ⟨w.heap.size, 0, none⟩ = some (.slice A n1 c1) ∧ wx.cell? ⟨w.heap.size, 1, none⟩ = some (.slice B n2 c2) ∧ wx.cell? ⟨w.heap.size, 2, none⟩ = some (.int .i64 mn) ∧ wx.cell? ⟨w.heap.size, 3, none⟩ = some (.int .i64 mx)) V.drew := FA.out _ KV.out
  refine wp_region_held_drew (S := fun (wx : World) => wx.cell? ⟨w.heap.size, 0, none⟩ = some (.slice A n1 c1) ∧ wx.cell? ⟨w.heap.size, 1, none⟩ = some (.slice B n2 c2) ∧ wx.cell? ⟨w.heap.size, 2, none⟩ = some (.int .i64 mn) ∧ wx.cell? ⟨w.heap.size, 3, none⟩ = some (.int .i64 mx)) (by kernel_rfl) S0 (fun hHeld => ?_)
  clear S0 BD K4 B4 Z5 hg
  generalize V.drew = V0 at *
  refine wpAnyH_ready (rs := [0]) (by kernel_rfl) (by simp) (AllReadyH.cons (o := { dst := some 9, op := Op.call { callee := Callee.value (Operand.func 27), args := #[Operand.tmp 3], argTypes := #[58] }, type := 4, pos := "text.go:30", after := #[], guard := none }) rfl (fun K hK => ?_) AllReadyH.nil)
  go_simp
  refine (NO.out g _ DV.out).mono ?_
  rintro e y ⟨rfl, ho, hbd⟩
  have BY := Lib.hid (BV.out.trans (ho.1.mono (by have := Z4.out; omega)))
  have KY := Lib.hid (KV.out.trans (ho.1.mono Z4.out))
  have ZY := Lib.hid (Nat.le_trans ZV.out ho.1.size)
  clear ho hbd hHeld
  refine hK.out _ _ (FA.out _ KY.out) (fun hHeld => ?_)
  clear hK K
  try simp only [Act.put, List.setIfInBounds_toArray, List.set_cons_zero, List.set_cons_succ]
  refine wpAnyH_take (i := 1) (oi := { dst := some 10, op := Op.move (Operand.tmp 9), type := 4, pos := "text.go:30", after := #[{ on := 0, ground := Ground.data }, { on := 0, ground := Ground.chain }], guard := none }) (v := ?vn1k1) rfl (by kernel_rfl) (by kernel_rfl) (by kernel_rfl) (fun _ _ _ h => h) (Or.inl ⟨by kernel_rfl, ?yn1k1⟩) (by assumption) ?rn1k1
  case yn1k1 => intro w hSw; (try dsimp only at hSw); go_simp; try with_reducible rfl
  try simp only [Act.put, List.setIfInBounds_toArray, List.set_cons_zero, List.set_cons_succ]
  refine wpAnyH_take (i := 2) (oi := { dst := some 11, op := Op.load 58 (Operand.tmp 3), type := 58, pos := "text.go:30", after := #[{ on := 1, ground := Ground.guard }], guard := some (1, true) }) (v := undef) rfl (by kernel_rfl) (by kernel_rfl) (by kernel_rfl) (fun _ _ _ h => h) (Or.inr ⟨by kernel_rfl, rfl⟩) (by assumption) ?rn2k2
  try simp only [Act.put, List.setIfInBounds_toArray, List.set_cons_zero, List.set_cons_succ]
  refine wpAnyH_take (i := 3) (oi := { dst := some 12, op := Op.load 24 (Operand.tmp 1), type := 24, pos := "text.go:30", after := #[{ on := 1, ground := Ground.guard }], guard := some (1, true) }) (v := undef) rfl (by kernel_rfl) (by kernel_rfl) (by kernel_rfl) (fun _ _ _ h => h) (Or.inr ⟨by kernel_rfl, rfl⟩) (by assumption) ?rn3k3
  try simp only [Act.put, List.setIfInBounds_toArray, List.set_cons_zero, List.set_cons_succ]
  refine wpAnyH_take (i := 4) (oi := { dst := some 13, op := Op.call { callee := Callee.value (Operand.func 26), args := #[Operand.tmp 12], argTypes := #[24] }, type := 58, pos := "text.go:30", after := #[{ on := 3, ground := Ground.data }, { on := 1, ground := Ground.chain }, { on := 1, ground := Ground.guard }], guard := some (1, true) }) (v := undef) rfl (by kernel_rfl) (by kernel_rfl) (by kernel_rfl) (fun _ _ _ h => h) (Or.inr ⟨by kernel_rfl, rfl⟩) (by assumption) ?rn4k4
  try simp only [Act.put, List.setIfInBounds_toArray, List.set_cons_zero, List.set_cons_succ]
  refine wpAnyH_take (i := 5) (oi := { dst := some 14, op := Op.binOp BinOp.eql 58 (Operand.tmp 11) (Operand.tmp 13) 58, type := 4, pos := "text.go:30", after := #[{ on := 2, ground := Ground.data }, { on := 4, ground := Ground.data }, { on := 1, ground := Ground.guard }], guard := some (1, true) }) (v := undef) rfl (by kernel_rfl) (by kernel_rfl) (by kernel_rfl) (fun _ _ _ h => h) (Or.inr ⟨by kernel_rfl, rfl⟩) (by assumption) ?rn5k5
  try simp only [Act.put, List.setIfInBounds_toArray, List.set_cons_zero, List.set_cons_succ]
  refine wpAnyH_take (i := 6) (oi := { dst := some 15, op := Op.pick (Operand.tmp 10) (Operand.tmp 14) (Operand.const (Value.bool false)), type := 4, pos := "text.go:30", after := #[{ on := 1, ground := Ground.data }, { on := 5, ground := Ground.data }], guard := none }) (v := ?vn6k6) rfl (by kernel_rfl) (by kernel_rfl) (by kernel_rfl) (fun _ _ _ h => h) (Or.inl ⟨by kernel_rfl, ?yn6k6⟩) (by assumption) ?rn6k6
  case yn6k6 => intro w hSw; (try dsimp only at hSw); go_simp; try with_reducible rfl
  try simp only [Act.put, List.setIfInBounds_toArray, List.set_cons_zero, List.set_cons_succ]
  refine wpAnyH_take (i := 7) (oi := { dst := some 2, op := Op.assign (Operand.tmp 15), type := 4, pos := "text.go:30", after := #[{ on := 6, ground := Ground.data }, { on := 4, ground := Ground.chain }, { on := 0, ground := Ground.phase }, { on := 1, ground := Ground.phase }, { on := 2, ground := Ground.phase }, { on := 3, ground := Ground.phase }, { on := 4, ground := Ground.phase }, { on := 5, ground := Ground.phase }, { on := 6, ground := Ground.phase }], guard := none }) (v := ?vn7k7) rfl (by kernel_rfl) (by kernel_rfl) (by kernel_rfl) (fun _ _ _ h => h) (Or.inl ⟨by kernel_rfl, ?yn7k7⟩) (by assumption) ?rn7k7
  case yn7k7 => intro w hSw; (try dsimp only at hSw); go_simp; try with_reducible rfl
  try simp only [Act.put, List.setIfInBounds_toArray, List.set_cons_zero, List.set_cons_succ]
  refine wpAnyH_done (by kernel_rfl) ?_ _
  go_wp2_with fail
  go_ret
  exact ⟨rfl, BY.out⟩
set_option maxRecDepth 100000 in
set_option maxHeartbeats 8000000 in
theorem isNormal_ok (lo hi : List Int) (mn mx : Int) (A B : Option Addr) (c1 c2 : Nat) (w : World) (ha : Ints w A lo) (hb : Ints w B hi) (hV : validFB lo hi mn mx = true) (hk : okN (setN lo) (setN hi) mn mx = true) :
    Calls Tryz.prog 13 #[.agg #[.slice A lo.length c1, .slice B hi.length c2, .int .i64 mn, .int .i64 mx]] w fun e w' => e = .returned (.bool (decide ((nlo (setN lo) (setN hi) mn : Int) = (setN lo : Int) ∧ (nhi (setN lo) (setN hi) mn mx : Int) = (setN hi : Int) ∧ nmn (setN lo) mn = mn ∧ nmx (setN hi) mx = mx))) ∧ Below w.heap.size w w' := by
  have VP := Lib.hid (fun w1 (h : Below w.heap.size w w1) => FValid_p_any lo hi mn mx A B c1 c2 w1 (ha.over h) (hb.over h))
  rw [hV] at VP
  obtain ⟨hr1, hr2⟩ : lo.all inR = true ∧ hi.all inR = true := by
    unfold validFB elemsB at hV
    simp only [Bool.and_eq_true] at hV
    exact ⟨hV.1.1.1.2, hV.1.1.2.2⟩
  have BO := Lib.hid (fun w1 (h : Below w.heap.size w w1) => boundsOf_any lo hi mn mx A B c1 c2 w1 (ha.over h) (hb.over h) hr1 hr2)
  have hL : setN lo < 18446744073709551616 := setN_lt hr1
  have hH : setN hi < 18446744073709551616 := setN_lt hr2
  have NO := Lib.hid (fun g w1 (h : Bd w1 g (setN lo) (setN hi) mn mx) => normalize_any g (setN lo) (setN hi) mn mx w1 h hL hH)
  unfold NormOk at NO
  rw [hk] at NO
  clear hL hH hr1 hr2 hk
  have hl1 := ha.1
  have hl2 := hb.1
  clear ha hb hV
  generalize lo.length = n1 at *
  generalize hi.length = n2 at *
  generalize setN lo = L at *
  generalize setN hi = H at *
  obtain ⟨l', hl'⟩ : ∃ x, nlo L H mn = x := ⟨_, rfl⟩
  obtain ⟨h', hh'⟩ : ∃ x, nhi L H mn mx = x := ⟨_, rfl⟩
  obtain ⟨m', hm'⟩ : ∃ x, nmn L mn = x := ⟨_, rfl⟩
  obtain ⟨x', hx'⟩ : ∃ x, nmx H mx = x := ⟨_, rfl⟩
  rw [hl', hh', hm', hx'] at NO ⊢
  obtain ⟨b, hbb⟩ : ∃ b, decide ((l' : Int) = (L : Int) ∧ (h' : Int) = (H : Int) ∧ m' = mn ∧ x' = mx) = b := ⟨_, rfl⟩
  rw [hbb]
  have HBB := Lib.hid hbb
  clear hl' hh' hm' hx' hbb
  go_enter Tryz.func13, Tryz.ntmps13
  go_upto_region 1 with fail
  have BA := Lib.hid (show Below w.heap.size w (w.alloc (.cells #[.slice A n1 c1, .slice B n2 c2, .int .i64 mn, .int .i64 mx] 24)) from (Below.refl _ w).alloc (Nat.le_refl _) _)
  have FA := Lib.hid (show ∀ wx : World, Below (w.heap.size + 1) (w.alloc (.cells #[.slice A n1 c1, .slice B n2 c2, .int .i64 mn, .int .i64 mx] 24)) wx → wx.cell? ⟨w.heap.size, 0, none⟩ = some (.slice A n1 c1) ∧ wx.cell? ⟨w.heap.size, 1, none⟩ = some (.slice B n2 c2) ∧ wx.cell? ⟨w.heap.size, 2, none⟩ = some (.int .i64 mn) ∧ wx.cell? ⟨w.heap.size, 3, none⟩ = some (.int .i64 mx) from fun wx h => by
    have hh := (h.block w.heap.size (by omega)).trans (heap_alloc_new w (.cells #[.slice A n1 c1, .slice B n2 c2, .int .i64 mn, .int .i64 mx] 24))
    refine ⟨?_, ?_, ?_, ?_⟩ <;> (simp only [World.cell?, hh]; rfl))
  have SZ := Lib.hid (show w.heap.size + 1 ≤ (w.alloc (.cells #[.slice A n1 c1, .slice B n2 c2, .int .i64 mn, .int .i64 mx] 24)).heap.size from by simp)
  generalize (w.alloc (.cells #[.slice A n1 c1, .slice B n2 c2, .int .i64 mn, .int .i64 mx] 24)) = u at *
  obtain ⟨a0, a1, a2, a3⟩ := FA.out u (Below.refl _ _)
  go_upto_region 3 with (go_at_call 30; refine (VP.out _ BA.out).mono ?_; rintro e w3 ⟨rfl, hb⟩; have B3 := Lib.hid (BA.out.trans (hb.mono BA.out.size)); have K3 := Lib.hid (show Below (w.heap.size + 1) u w3 from hb.mono SZ.out); have Z3 := Lib.hid (Nat.le_trans SZ.out hb.size); clear a0 a1 a2 a3 hb VP)
  obtain ⟨a0, a1, a2, a3⟩ := FA.out _ K3.out
  go_upto_region 4 with (go_at_call 26; refine (BO.out _ B3.out).mono ?_; rintro e w4 ⟨rfl, hb⟩; have B4 := Lib.hid (B3.out.trans (hb.mono B3.out.size)); have K4 := Lib.hid (show Below (w.heap.size + 1) u w4 from K3.out.trans (hb.mono Z3.out)); have Z4 := Lib.hid (Nat.le_trans Z3.out hb.size); clear a0 a1 a2 a3 hb)
  have BD := Lib.hid (show Bd (w4.alloc (.cells #[.int .u64 (L : Int), .int .u64 (H : Int), .int .i64 mn, .int .i64 mx] 58)) w4.heap.size L H mn mx from heap_alloc_new w4 _)
  replace B4 := Lib.hid (B4.out.alloc B4.out.size (.cells #[.int .u64 (L : Int), .int .u64 (H : Int), .int .i64 mn, .int .i64 mx] 58))
  replace K4 := Lib.hid (K4.out.alloc Z4.out (.cells #[.int .u64 (L : Int), .int .u64 (H : Int), .int .i64 mn, .int .i64 mx] 58))
  have Z5 := Lib.hid (show w4.heap.size + 1 ≤ (w4.alloc (.cells #[.int .u64 (L : Int), .int .u64 (H : Int), .int .i64 mn, .int .i64 mx] 58)).heap.size from by simp)
  generalize (w4.alloc (.cells #[.int .u64 (L : Int), .int .u64 (H : Int), .int .i64 mn, .int .i64 mx] 58)) = V at *
  obtain ⟨g, hg⟩ : ∃ g, w4.heap.size = g := ⟨_, rfl⟩
  rw [hg] at BD Z4 Z5 ⊢
  have BV := Lib.hid (show Below w.heap.size w V.drew from B4.out.drew)
  have KV := Lib.hid (show Below (w.heap.size + 1) u V.drew from K4.out.drew)
  have DV := Lib.hid (show Bd V.drew g L H mn mx from BD.out)
  have ZV := Lib.hid (show g + 1 ≤ V.drew.heap.size from Z5.out)
  have S0 : (fun wx : World => wx.cell? ⟨w.heap.size, 0, none⟩ = some (.slice A n1 c1) ∧ wx.cell? ⟨w.heap.size, 1, none⟩ = some (.slice B n2 c2) ∧ wx.cell? ⟨w.heap.size, 2, none⟩ = some (.int .i64 mn) ∧ wx.cell? ⟨w.heap.size, 3, none⟩ = some (.int .i64 mx)) V.drew := FA.out _ KV.out
  refine wp_region_held_drew (S := fun (wx : World) => wx.cell? ⟨w.heap.size, 0, none⟩ = some (.slice A n1 c1) ∧ wx.cell? ⟨w.heap.size, 1, none⟩ = some (.slice B n2 c2) ∧ wx.cell? ⟨w.heap.size, 2, none⟩ = some (.int .i64 mn) ∧ wx.cell? ⟨w.heap.size, 3, none⟩ = some (.int .i64 mx)) (by kernel_rfl) S0 (fun hHeld => ?_)
  clear S0 BD K4 B4 Z5 hg
  generalize V.drew = V0 at *
  refine wpAnyH_ready (rs := [0]) (by kernel_rfl) (by simp) (AllReadyH.cons (o := { dst := some 9, op := Op.call { callee := Callee.value (Operand.func 27), args := #[Operand.tmp 3], argTypes := #[58] }, type := 4, pos := "text.go:30", after := #[], guard := none }) rfl (fun K hK => ?_) AllReadyH.nil)
  go_simp
  refine (NO.out g _ DV.out).mono ?_
  rintro e y ⟨rfl, ho, hbd⟩
  have BY := Lib.hid (BV.out.trans (ho.1.mono (by have := Z4.out; omega)))
  have KY := Lib.hid (KV.out.trans (ho.1.mono Z4.out))
  have ZY := Lib.hid (Nat.le_trans ZV.out ho.1.size)
  have DY := Lib.hid (hbd trivial)
  clear ho hbd hHeld
  refine hK.out _ _ (FA.out _ KY.out) (fun hHeld => ?_)
  clear hK K
  try simp only [Act.put, List.setIfInBounds_toArray, List.set_cons_zero, List.set_cons_succ]
  refine wpAnyH_take (i := 1) (oi := { dst := some 10, op := Op.move (Operand.tmp 9), type := 4, pos := "text.go:30", after := #[{ on := 0, ground := Ground.data }, { on := 0, ground := Ground.chain }], guard := none }) (v := ?vn8k1) rfl (by kernel_rfl) (by kernel_rfl) (by kernel_rfl) (fun _ _ _ h => h) (Or.inl ⟨by kernel_rfl, ?yn8k1⟩) (by assumption) ?rn8k1
  case yn8k1 => intro w hSw; (try dsimp only at hSw); go_simp; try with_reducible rfl
  try simp only [Act.put, List.setIfInBounds_toArray, List.set_cons_zero, List.set_cons_succ]
  refine wpAnyH_take (i := 3) (oi := { dst := some 12, op := Op.load 24 (Operand.tmp 1), type := 24, pos := "text.go:30", after := #[{ on := 1, ground := Ground.guard }], guard := some (1, true) }) (v := ?vn9k3) rfl (by kernel_rfl) (by kernel_rfl) (by kernel_rfl) (fun _ _ _ h => h) (Or.inl ⟨by kernel_rfl, ?yn9k3⟩) (by assumption) ?rn9k3
  case yn9k3 => intro w hSw; (try dsimp only at hSw); go_simp; try with_reducible rfl
  try simp only [Act.put, List.setIfInBounds_toArray, List.set_cons_zero, List.set_cons_succ]
  refine wpAnyH_ready (rs := [2, 4]) (by kernel_rfl) (by simp) (AllReadyH.cons (o := { dst := some 11, op := Op.load 58 (Operand.tmp 3), type := 58, pos := "text.go:30", after := #[{ on := 1, ground := Ground.guard }], guard := some (1, true) }) rfl (fun K hK => ?_) (AllReadyH.cons (o := { dst := some 13, op := Op.call { callee := Callee.value (Operand.func 26), args := #[Operand.tmp 12], argTypes := #[24] }, type := 58, pos := "text.go:30", after := #[{ on := 3, ground := Ground.data }, { on := 1, ground := Ground.chain }, { on := 1, ground := Ground.guard }], guard := some (1, true) }) rfl (fun K hK => ?_) AllReadyH.nil))
  · obtain ⟨b0, b1, b2, b3, fz⟩ := DY.out.facts
    clear fz
    go_simp
    clear b0 b1 b2 b3 hHeld
    refine hK.out _ _ (FA.out _ KY.out) (fun hHeld => ?_)
    clear hK K
    try simp only [Act.put, List.setIfInBounds_toArray, List.set_cons_zero, List.set_cons_succ]
    refine wpAnyH_ready (rs := [4]) (by kernel_rfl) (by simp) (AllReadyH.cons (o := { dst := some 13, op := Op.call { callee := Callee.value (Operand.func 26), args := #[Operand.tmp 12], argTypes := #[24] }, type := 58, pos := "text.go:30", after := #[{ on := 3, ground := Ground.data }, { on := 1, ground := Ground.chain }, { on := 1, ground := Ground.guard }], guard := some (1, true) }) rfl (fun K hK => ?_) AllReadyH.nil)
    go_simp
    refine (BO.out _ BY.out).mono ?_
    rintro e z ⟨rfl, hb⟩
    have BZ := Lib.hid (BY.out.trans (hb.mono BY.out.size))
    have KZ := Lib.hid (KY.out.trans (hb.mono (by have := Z4.out; have := ZY.out; omega)))
    have DZ := Lib.hid (show Bd z g l' h' m' x' from (hb.block g (by have := ZY.out; omega)).trans DY.out)
    clear hb hHeld
    refine hK.out _ _ (FA.out _ KZ.out) (fun hHeld => ?_)
    clear hK K
    try simp only [Act.put, List.setIfInBounds_toArray, List.set_cons_zero, List.set_cons_succ]
    refine wpAnyH_take (i := 5) (oi := { dst := some 14, op := Op.binOp BinOp.eql 58 (Operand.tmp 11) (Operand.tmp 13) 58, type := 4, pos := "text.go:30", after := #[{ on := 2, ground := Ground.data }, { on := 4, ground := Ground.data }, { on := 1, ground := Ground.guard }], guard := some (1, true) }) (v := .bool b) rfl (by kernel_rfl) (by kernel_rfl) (by kernel_rfl) (fun _ _ _ h => h) (Or.inl ⟨by kernel_rfl, ?y5a⟩) (by assumption) ?r5a
    case y5a =>
      intro w hSw; (try dsimp only at hSw); go_simp
      rw [← HBB.out]
      by_cases h1 : (l' : Int) = (L : Int) <;> by_cases h2 : (h' : Int) = (H : Int) <;> by_cases h3 : m' = mn <;> by_cases h4 : x' = mx <;> simp [h1, h2, h3, h4]
    try simp only [Act.put, List.setIfInBounds_toArray, List.set_cons_zero, List.set_cons_succ]
    refine wpAnyH_take (i := 6) (oi := { dst := some 15, op := Op.pick (Operand.tmp 10) (Operand.tmp 14) (Operand.const (Value.bool false)), type := 4, pos := "text.go:30", after := #[{ on := 1, ground := Ground.data }, { on := 5, ground := Ground.data }], guard := none }) (v := ?vn10k6) rfl (by kernel_rfl) (by kernel_rfl) (by kernel_rfl) (fun _ _ _ h => h) (Or.inl ⟨by kernel_rfl, ?yn10k6⟩) (by assumption) ?rn10k6
    case yn10k6 => intro w hSw; (try dsimp only at hSw); go_simp; try with_reducible rfl
    try simp only [Act.put, List.setIfInBounds_toArray, List.set_cons_zero, List.set_cons_succ]
    refine wpAnyH_take (i := 7) (oi := { dst := some 2, op := Op.assign (Operand.tmp 15), type := 4, pos := "text.go:30", after := #[{ on := 6, ground := Ground.data }, { on := 4, ground := Ground.chain }, { on := 0, ground := Ground.phase }, { on := 1, ground := Ground.phase }, { on := 2, ground := Ground.phase }, { on := 3, ground := Ground.phase }, { on := 4, ground := Ground.phase }, { on := 5, ground := Ground.phase }, { on := 6, ground := Ground.phase }], guard := none }) (v := ?vn11k7) rfl (by kernel_rfl) (by kernel_rfl) (by kernel_rfl) (fun _ _ _ h => h) (Or.inl ⟨by kernel_rfl, ?yn11k7⟩) (by assumption) ?rn11k7
    case yn11k7 => intro w hSw; (try dsimp only at hSw); go_simp; try with_reducible rfl
    try simp only [Act.put, List.setIfInBounds_toArray, List.set_cons_zero, List.set_cons_succ]
    refine wpAnyH_done (by kernel_rfl) ?_ _
    go_wp2_with fail
    go_ret
    exact ⟨rfl, BZ.out⟩
  · go_simp
    refine (BO.out _ BY.out).mono ?_
    rintro e z ⟨rfl, hb⟩
    have BZ := Lib.hid (BY.out.trans (hb.mono BY.out.size))
    have KZ := Lib.hid (KY.out.trans (hb.mono (by have := Z4.out; have := ZY.out; omega)))
    have DZ := Lib.hid (show Bd z g l' h' m' x' from (hb.block g (by have := ZY.out; omega)).trans DY.out)
    clear hb hHeld
    refine hK.out _ _ (FA.out _ KZ.out) (fun hHeld => ?_)
    clear hK K
    try simp only [Act.put, List.setIfInBounds_toArray, List.set_cons_zero, List.set_cons_succ]
    refine wpAnyH_ready (rs := [2]) (by kernel_rfl) (by simp) (AllReadyH.cons (o := { dst := some 11, op := Op.load 58 (Operand.tmp 3), type := 58, pos := "text.go:30", after := #[{ on := 1, ground := Ground.guard }], guard := some (1, true) }) rfl (fun K hK => ?_) AllReadyH.nil)
    obtain ⟨b0, b1, b2, b3, fz⟩ := DZ.out.facts
    clear fz
    go_simp
    clear b0 b1 b2 b3 hHeld
    refine hK.out _ _ (FA.out _ KZ.out) (fun hHeld => ?_)
    clear hK K
    try simp only [Act.put, List.setIfInBounds_toArray, List.set_cons_zero, List.set_cons_succ]
    refine wpAnyH_take (i := 5) (oi := { dst := some 14, op := Op.binOp BinOp.eql 58 (Operand.tmp 11) (Operand.tmp 13) 58, type := 4, pos := "text.go:30", after := #[{ on := 2, ground := Ground.data }, { on := 4, ground := Ground.data }, { on := 1, ground := Ground.guard }], guard := some (1, true) }) (v := .bool b) rfl (by kernel_rfl) (by kernel_rfl) (by kernel_rfl) (fun _ _ _ h => h) (Or.inl ⟨by kernel_rfl, ?y5b⟩) (by assumption) ?r5b
    case y5b =>
      intro w hSw; (try dsimp only at hSw); go_simp
      rw [← HBB.out]
      by_cases h1 : (l' : Int) = (L : Int) <;> by_cases h2 : (h' : Int) = (H : Int) <;> by_cases h3 : m' = mn <;> by_cases h4 : x' = mx <;> simp [h1, h2, h3, h4]
    try simp only [Act.put, List.setIfInBounds_toArray, List.set_cons_zero, List.set_cons_succ]
    refine wpAnyH_take (i := 6) (oi := { dst := some 15, op := Op.pick (Operand.tmp 10) (Operand.tmp 14) (Operand.const (Value.bool false)), type := 4, pos := "text.go:30", after := #[{ on := 1, ground := Ground.data }, { on := 5, ground := Ground.data }], guard := none }) (v := ?vn12k6) rfl (by kernel_rfl) (by kernel_rfl) (by kernel_rfl) (fun _ _ _ h => h) (Or.inl ⟨by kernel_rfl, ?yn12k6⟩) (by assumption) ?rn12k6
    case yn12k6 => intro w hSw; (try dsimp only at hSw); go_simp; try with_reducible rfl
    try simp only [Act.put, List.setIfInBounds_toArray, List.set_cons_zero, List.set_cons_succ]
    refine wpAnyH_take (i := 7) (oi := { dst := some 2, op := Op.assign (Operand.tmp 15), type := 4, pos := "text.go:30", after := #[{ on := 6, ground := Ground.data }, { on := 4, ground := Ground.chain }, { on := 0, ground := Ground.phase }, { on := 1, ground := Ground.phase }, { on := 2, ground := Ground.phase }, { on := 3, ground := Ground.phase }, { on := 4, ground := Ground.phase }, { on := 5, ground := Ground.phase }, { on := 6, ground := Ground.phase }], guard := none }) (v := ?vn13k7) rfl (by kernel_rfl) (by kernel_rfl) (by kernel_rfl) (fun _ _ _ h => h) (Or.inl ⟨by kernel_rfl, ?yn13k7⟩) (by assumption) ?rn13k7
    case yn13k7 => intro w hSw; (try dsimp only at hSw); go_simp; try with_reducible rfl
    try simp only [Act.put, List.setIfInBounds_toArray, List.set_cons_zero, List.set_cons_succ]
    refine wpAnyH_done (by kernel_rfl) ?_ _
    go_wp2_with fail
    go_ret
    exact ⟨rfl, BZ.out⟩
theorem isNormal_any (lo hi : List Int) (mn mx : Int) (A B : Option Addr) (c1 c2 : Nat) (w : World) (ha : Ints w A lo) (hb : Ints w B hi) :
    Calls Tryz.prog 13 #[.agg #[.slice A lo.length c1, .slice B hi.length c2, .int .i64 mn, .int .i64 mx]] w fun e w' => e = .returned (.bool (validFB lo hi mn mx && normB (setN lo) (setN hi) mn mx)) ∧ Below w.heap.size w w' := by
  unfold normB
  cases hV : validFB lo hi mn mx with
  | false => exact isNormal_bad lo hi mn mx A B c1 c2 w ha hb hV
  | true =>
    cases hk : okN (setN lo) (setN hi) mn mx with
    | false => exact isNormal_no lo hi mn mx A B c1 c2 w ha hb hV hk
    | true => exact isNormal_ok lo hi mn mx A B c1 c2 w ha hb hV hk
end Go.Proofs.YtcbjkclajkjicaaGreatDoor
