/-
  A family handed out: the document's.
-/
import Derived.Test.YtgjphbkaonaneaaDoorFzZ
namespace Go.Proofs.YtgjphbkaonaneaaDoor
set_option linter.unusedSimpArgs false
open Go Go.RowKit Go.Shelf Go.Ev

theorem fam_put {w : World} {g : Nat} {a b c d : Value} (k : w.heap[g]? = some (.cells #[a, b, c, d] 37 (0, 0))) (l h m x : Value) :
    (((((w.setCell ⟨g, 0, none⟩ l).setCell ⟨g, 1, none⟩ h).setCell ⟨g, 2, none⟩ m).setCell ⟨g, 3, none⟩ x)).heap[g]? = some (.cells #[l, h, m, x] 37 (0, 0)) ∧
    Only g w ((((w.setCell ⟨g, 0, none⟩ l).setCell ⟨g, 1, none⟩ h).setCell ⟨g, 2, none⟩ m).setCell ⟨g, 3, none⟩ x) := by
  have h0 := heap_setCell_same _ g 0 _ _ l k
  have h1 := heap_setCell_same _ g 1 _ _ h h0
  have h2 := heap_setCell_same _ g 2 _ _ m h1
  have h3 := heap_setCell_same _ g 3 _ _ x h2
  exact ⟨h3, (((Only.set _ _ _).trans (Only.set _ _ _)).trans (Only.set _ _ _)).trans (Only.set _ _ _)⟩
set_option maxRecDepth 100000 in
set_option maxHeartbeats 8000000 in
theorem rout_any (lo hi : Nat) (mn mx : Int) (w : World) (hlo : lo < 18446744073709551616) (hhi : hi < 18446744073709551616) :
    Calls Tryd.prog 63 #[.agg #[.int .u64 lo, .int .u64 hi, .int .i64 mn, .int .i64 mx, .bool false]] w fun e w' => (∃ v, e = .returned v ∧ FamOut w' w.heap.size lo hi mn mx v) ∧ Below w.heap.size w w' := by
  have LA := Lib.hid (fun w1 => rlist_any lo w1 hlo)
  have LB := Lib.hid (fun w1 => rlist_any hi w1 hhi)
  clear hlo hhi
  go_enter Tryd.func63, Tryd.ntmps63
  go_wp2_with fail
  have BA := Lib.hid (show Below w.heap.size w ((w.alloc (.cells #[.int .u64 lo, .int .u64 hi, .int .i64 mn, .int .i64 mx, .bool false] 88)).alloc (.cells #[.slice none 0 0, .slice none 0 0, .int .i64 0, .int .i64 0] 37)) from ((Below.refl _ w).alloc (Nat.le_refl _) _).alloc (by simp) _)
  have BF := Lib.hid (show famCells ((w.alloc (.cells #[.int .u64 lo, .int .u64 hi, .int .i64 mn, .int .i64 mx, .bool false] 88)).alloc (.cells #[.slice none 0 0, .slice none 0 0, .int .i64 0, .int .i64 0] 37)) (w.heap.size + 1) from heap_alloc2_new _ _ _)
  have FA := Lib.hid (show ∀ wx : World, Below (w.heap.size + 2) ((w.alloc (.cells #[.int .u64 lo, .int .u64 hi, .int .i64 mn, .int .i64 mx, .bool false] 88)).alloc (.cells #[.slice none 0 0, .slice none 0 0, .int .i64 0, .int .i64 0] 37)) wx → wx.cell? ⟨w.heap.size, 0, none⟩ = some (.int .u64 lo) ∧ wx.cell? ⟨w.heap.size, 1, none⟩ = some (.int .u64 hi) ∧ wx.cell? ⟨w.heap.size, 2, none⟩ = some (.int .i64 mn) ∧ wx.cell? ⟨w.heap.size, 3, none⟩ = some (.int .i64 mx) from fun wx h => by
    have hh := (h.block w.heap.size (by omega)).trans (heap_alloc2_old w (.cells #[.int .u64 lo, .int .u64 hi, .int .i64 mn, .int .i64 mx, .bool false] 88) _)
    refine ⟨?_, ?_, ?_, ?_⟩ <;> (simp only [World.cell?, hh]; rfl))
  have hz : ((w.alloc (.cells #[.int .u64 lo, .int .u64 hi, .int .i64 mn, .int .i64 mx, .bool false] 88)).alloc (.cells #[.slice none 0 0, .slice none 0 0, .int .i64 0, .int .i64 0] 37)).heap.size = w.heap.size + 2 := by simp
  generalize ((w.alloc (.cells #[.int .u64 lo, .int .u64 hi, .int .i64 mn, .int .i64 mx, .bool false] 88)).alloc (.cells #[.slice none 0 0, .slice none 0 0, .int .i64 0, .int .i64 0] 37)) = W at *
  have S0 : (fun wx : World => wx.cell? ⟨w.heap.size, 0, none⟩ = some (.int .u64 lo) ∧ wx.cell? ⟨w.heap.size, 1, none⟩ = some (.int .u64 hi) ∧ wx.cell? ⟨w.heap.size, 2, none⟩ = some (.int .i64 mn) ∧ wx.cell? ⟨w.heap.size, 3, none⟩ = some (.int .i64 mx)) W.drew := FA.out _ (Below.refl _ W).drew
  refine wp_region_held_drew (S := fun (wx : World) => wx.cell? ⟨w.heap.size, 0, none⟩ = some (.int .u64 lo) ∧ wx.cell? ⟨w.heap.size, 1, none⟩ = some (.int .u64 hi) ∧ wx.cell? ⟨w.heap.size, 2, none⟩ = some (.int .i64 mn) ∧ wx.cell? ⟨w.heap.size, 3, none⟩ = some (.int .i64 mx)) (by kernel_rfl) S0 (fun hHeld => ?_)
  clear S0
  have BV := Lib.hid (show Below (w.heap.size + 2) W W.drew from (Below.refl _ W).drew)
  have hvs : w.heap.size + 2 ≤ W.drew.heap.size := by show _ ≤ W.heap.size; omega
  clear hz
  generalize W.drew = V at *
  refine wpAnyH_take (i := 0) (oi := { dst := some 3, op := Op.fieldAddr 88 (Operand.tmp 1) 0, type := 0, pos := "ref.go:67", after := #[], guard := none }) (v := ?vn1k0) rfl (by kernel_rfl) (by kernel_rfl) (by kernel_rfl) (fun _ _ _ h => h) (Or.inl ⟨by kernel_rfl, ?yn1k0⟩) (by assumption) ?rn1k0
  case yn1k0 => intro w hSw; (try dsimp only at hSw); go_simp; try with_reducible rfl
  try simp only [Act.put, List.setIfInBounds_toArray, List.set_cons_zero, List.set_cons_succ]
  refine wpAnyH_take (i := 1) (oi := { dst := some 4, op := Op.load 86 (Operand.tmp 3), type := 86, pos := "ref.go:67", after := #[{ on := 0, ground := Ground.data }], guard := none }) (v := ?vn2k1) rfl (by kernel_rfl) (by kernel_rfl) (by kernel_rfl) (fun _ _ _ h => h) (Or.inl ⟨by kernel_rfl, ?yn2k1⟩) (by assumption) ?rn2k1
  case yn2k1 => intro w hSw; (try dsimp only at hSw); go_simp; try with_reducible rfl
  try simp only [Act.put, List.setIfInBounds_toArray, List.set_cons_zero, List.set_cons_succ]
  refine wpAnyH_take (i := 3) (oi := { dst := some 6, op := Op.fieldAddr 88 (Operand.tmp 1) 1, type := 0, pos := "ref.go:67", after := #[], guard := none }) (v := ?vn3k3) rfl (by kernel_rfl) (by kernel_rfl) (by kernel_rfl) (fun _ _ _ h => h) (Or.inl ⟨by kernel_rfl, ?yn3k3⟩) (by assumption) ?rn3k3
  case yn3k3 => intro w hSw; (try dsimp only at hSw); go_simp; try with_reducible rfl
  try simp only [Act.put, List.setIfInBounds_toArray, List.set_cons_zero, List.set_cons_succ]
  refine wpAnyH_take (i := 4) (oi := { dst := some 7, op := Op.load 86 (Operand.tmp 6), type := 86, pos := "ref.go:67", after := #[{ on := 3, ground := Ground.data }], guard := none }) (v := ?vn4k4) rfl (by kernel_rfl) (by kernel_rfl) (by kernel_rfl) (fun _ _ _ h => h) (Or.inl ⟨by kernel_rfl, ?yn4k4⟩) (by assumption) ?rn4k4
  case yn4k4 => intro w hSw; (try dsimp only at hSw); go_simp; try with_reducible rfl
  try simp only [Act.put, List.setIfInBounds_toArray, List.set_cons_zero, List.set_cons_succ]
  refine wpAnyH_take (i := 6) (oi := { dst := some 9, op := Op.fieldAddr 88 (Operand.tmp 1) 2, type := 0, pos := "ref.go:67", after := #[], guard := none }) (v := ?vn5k6) rfl (by kernel_rfl) (by kernel_rfl) (by kernel_rfl) (fun _ _ _ h => h) (Or.inl ⟨by kernel_rfl, ?yn5k6⟩) (by assumption) ?rn5k6
  case yn5k6 => intro w hSw; (try dsimp only at hSw); go_simp; try with_reducible rfl
  try simp only [Act.put, List.setIfInBounds_toArray, List.set_cons_zero, List.set_cons_succ]
  refine wpAnyH_take (i := 7) (oi := { dst := some 10, op := Op.load 3 (Operand.tmp 9), type := 3, pos := "ref.go:67", after := #[{ on := 6, ground := Ground.data }], guard := none }) (v := ?vn6k7) rfl (by kernel_rfl) (by kernel_rfl) (by kernel_rfl) (fun _ _ _ h => h) (Or.inl ⟨by kernel_rfl, ?yn6k7⟩) (by assumption) ?rn6k7
  case yn6k7 => intro w hSw; (try dsimp only at hSw); go_simp; try with_reducible rfl
  try simp only [Act.put, List.setIfInBounds_toArray, List.set_cons_zero, List.set_cons_succ]
  refine wpAnyH_take (i := 8) (oi := { dst := some 11, op := Op.fieldAddr 88 (Operand.tmp 1) 3, type := 0, pos := "ref.go:67", after := #[], guard := none }) (v := ?vn7k8) rfl (by kernel_rfl) (by kernel_rfl) (by kernel_rfl) (fun _ _ _ h => h) (Or.inl ⟨by kernel_rfl, ?yn7k8⟩) (by assumption) ?rn7k8
  case yn7k8 => intro w hSw; (try dsimp only at hSw); go_simp; try with_reducible rfl
  try simp only [Act.put, List.setIfInBounds_toArray, List.set_cons_zero, List.set_cons_succ]
  refine wpAnyH_take (i := 9) (oi := { dst := some 12, op := Op.load 3 (Operand.tmp 11), type := 3, pos := "ref.go:67", after := #[{ on := 8, ground := Ground.data }], guard := none }) (v := ?vn8k9) rfl (by kernel_rfl) (by kernel_rfl) (by kernel_rfl) (fun _ _ _ h => h) (Or.inl ⟨by kernel_rfl, ?yn8k9⟩) (by assumption) ?rn8k9
  case yn8k9 => intro w hSw; (try dsimp only at hSw); go_simp; try with_reducible rfl
  try simp only [Act.put, List.setIfInBounds_toArray, List.set_cons_zero, List.set_cons_succ]
  refine wpAnyH_ready (rs := [2]) (by kernel_rfl) (by simp) (AllReadyH.cons (o := { dst := some 5, op := Op.call { callee := Callee.value (Operand.func 105), args := #[Operand.tmp 4], argTypes := #[86] }, type := 23, pos := "ref.go:67", after := #[{ on := 1, ground := Ground.data }], guard := none }) rfl (fun K hK => ?_) AllReadyH.nil)
  go_simp
  refine (LA.out _).mono ?_
  rintro e y1 ⟨G1, k1, rfl, ho, hb⟩
  have R1 := Lib.hid ho
  replace BV := Lib.hid (BV.out.trans (hb.mono hvs))
  have hsy1 : w.heap.size + 2 ≤ y1.heap.size := Nat.le_trans hvs hb.size
  clear ho hb hHeld
  refine hK.out _ _ (FA.out _ BV.out) (fun hHeld => ?_)
  clear hK K
  try simp only [Act.put, List.setIfInBounds_toArray, List.set_cons_zero, List.set_cons_succ]
  refine wpAnyH_ready (rs := [5]) (by kernel_rfl) (by simp) (AllReadyH.cons (o := { dst := some 8, op := Op.call { callee := Callee.value (Operand.func 105), args := #[Operand.tmp 7], argTypes := #[86] }, type := 23, pos := "ref.go:67", after := #[{ on := 4, ground := Ground.data }, { on := 2, ground := Ground.chain }], guard := none }) rfl (fun K hK => ?_) AllReadyH.nil)
  go_simp
  refine (LB.out _).mono ?_
  rintro e y2 ⟨G2, k2, rfl, ho, hb⟩
  have R2 := Lib.hid ho
  have R3 := Lib.hid (ownsRow_below R1.out (fun b h => hb.block b (R1.out.lt b h).2) (Nat.le_refl _))
  have R4 := Lib.hid (fun b (h : Value.ownBlock (.slice G1 (bitsOf 64 0 lo).length k1) = some b) => (R1.out.lt b h).2)
  replace BV := Lib.hid (BV.out.trans (hb.mono hsy1))
  have hsy2 : w.heap.size + 2 ≤ y2.heap.size := Nat.le_trans hsy1 hb.size
  clear ho hb hHeld
  refine hK.out _ _ (FA.out _ BV.out) (fun hHeld => ?_)
  clear hK K
  try simp only [Act.put, List.setIfInBounds_toArray, List.set_cons_zero, List.set_cons_succ]
  refine wpAnyH_take (i := 10) (oi := { dst := some 13, op := Op.build 37 #[(0, Operand.tmp 5), (1, Operand.tmp 8), (2, Operand.tmp 10), (3, Operand.tmp 12)], type := 37, pos := "ref.go:67", after := #[{ on := 2, ground := Ground.data }, { on := 5, ground := Ground.data }, { on := 7, ground := Ground.data }, { on := 9, ground := Ground.data }], guard := none }) (v := ?vn9k10) rfl (by kernel_rfl) (by kernel_rfl) (by kernel_rfl) (fun _ _ _ h => h) (Or.inl ⟨by kernel_rfl, ?yn9k10⟩) (by assumption) ?rn9k10
  case yn9k10 => intro w hSw; (try dsimp only at hSw); go_simp; try with_reducible rfl
  try simp only [Act.put, List.setIfInBounds_toArray, List.set_cons_zero, List.set_cons_succ]
  have FF := Lib.hid (show famCells y2 (w.heap.size + 1) from (BV.out.block _ (by omega)).trans BF.out)
  obtain ⟨q0, q1, q2, q3, fz⟩ := famCells_facts FF.out
  refine wpAnyH_ready (rs := [11]) (by kernel_rfl) (by simp) (AllReadyH.cons (o := { dst := none, op := Op.store 37 (Operand.tmp 2) (Operand.tmp 13), type := 0, pos := "ref.go:67", after := #[{ on := 10, ground := Ground.data }, { on := 5, ground := Ground.chain }, { on := 0, ground := Ground.phase }, { on := 1, ground := Ground.phase }, { on := 2, ground := Ground.phase }, { on := 3, ground := Ground.phase }, { on := 4, ground := Ground.phase }, { on := 5, ground := Ground.phase }, { on := 6, ground := Ground.phase }, { on := 7, ground := Ground.phase }, { on := 8, ground := Ground.phase }, { on := 9, ground := Ground.phase }, { on := 10, ground := Ground.phase }], guard := none }) rfl (fun K hK => ?_) AllReadyH.nil)
  go_simp
  have pz := fam_put (show y2.heap[w.heap.size + 1]? = some (.cells #[.slice none 0 0, .slice none 0 0, .int .i64 0, .int .i64 0] 37 (0, 0)) from FF.out) (.slice G1 (bitsOf 64 0 lo).length k1) (.slice G2 (bitsOf 64 0 hi).length k2) (.int .i64 mn) (.int .i64 mx)
  have P1 := Lib.hid pz.1
  have P2 := Lib.hid pz.2
  clear pz q0 q1 q2 q3 fz hHeld
  generalize ((((y2.setCell ⟨w.heap.size + 1, 0, none⟩ (.slice G1 (bitsOf 64 0 lo).length k1)).setCell ⟨w.heap.size + 1, 1, none⟩ (.slice G2 (bitsOf 64 0 hi).length k2)).setCell ⟨w.heap.size + 1, 2, none⟩ (.int .i64 mn)).setCell ⟨w.heap.size + 1, 3, none⟩ (.int .i64 mx)) = W6 at *
  have S6 : (fun wx : World => wx.cell? ⟨w.heap.size, 0, none⟩ = some (.int .u64 lo) ∧ wx.cell? ⟨w.heap.size, 1, none⟩ = some (.int .u64 hi) ∧ wx.cell? ⟨w.heap.size, 2, none⟩ = some (.int .i64 mn) ∧ wx.cell? ⟨w.heap.size, 3, none⟩ = some (.int .i64 mx)) W6 := by
    have h := FA.out _ BV.out
    refine ⟨?_, ?_, ?_, ?_⟩ <;> (simp only [World.cell?, P2.out.2 w.heap.size (by omega)]; first | exact h.1 | exact h.2.1 | exact h.2.2.1 | exact h.2.2.2)
  refine hK.out _ _ S6 (fun _ => ?_)
  clear hK K S6
  refine wpAnyH_done (by kernel_rfl) ?_ _
  go_wp2_with fail
  refine bodyPost_ret (v := .agg #[.slice G1 (bitsOf 64 0 lo).length k1, .slice G2 (bitsOf 64 0 hi).length k2, .int .i64 mn, .int .i64 mx]) (results_cell_row rfl _ _ (w.heap.size + 1) 37 _ (0, 0) _ rfl P1.out Tryd.underlying37 rfl (by kernel_rfl)) rfl ?_
  refine ⟨⟨_, rfl, _, _, rfl, ⟨⟨_, _, rfl⟩, ownsRow_below R3.out (fun b hb => P2.out.2 b ?_) (by omega)⟩, ⟨⟨_, _, rfl⟩, ownsRow_below R2.out (fun b hb => P2.out.2 b ?_) (by omega)⟩, fun b h1 h2 => ?_⟩, BA.out.trans ((BV.out.mono (by omega)).trans (P2.out.1.mono (by omega)))⟩
  · have := (R3.out.lt b hb).1; omega
  · have := (R2.out.lt b hb).1; omega
  · have g1 := R4.out b h1
    have g2 := (R2.out.lt b h2).1
    omega
end Go.Proofs.YtgjphbkaonaneaaDoor

/-
  Normal: the document's.
-/
namespace Go.Proofs.YtgjphbkaonaneaaDoor
set_option linter.unusedSimpArgs false
open Go Go.RowKit Go.Shelf Go.Ev

set_option maxRecDepth 100000 in
set_option maxHeartbeats 8000000 in
theorem Normal_r_any (lo hi : List Int) (mn mx : Int) (A B : Option Addr) (c1 c2 : Nat) (w : World) (ha : Ints w A lo) (hb : Ints w B hi) :
    Calls Tryd.prog 28 #[.agg #[.slice A lo.length c1, .slice B hi.length c2, .int .i64 mn, .int .i64 mx]] w (MeetRes (validFB lo hi mn mx) (setN lo) (setN hi) mn mx w) := by
  have VP := Lib.hid (fun w1 (h : Below w.heap.size w w1) => FValid_r_any lo hi mn mx A B c1 c2 w1 (ha.over h) (hb.over h))
  have VL := Lib.hid (show validFB lo hi mn mx = true → lo.all inR = true ∧ hi.all inR = true from fun h => by
    unfold validFB elemsB at h
    simp only [Bool.and_eq_true] at h
    exact ⟨h.1.1.1.2, h.1.1.2.2⟩)
  have BO := Lib.hid (fun (h1 : lo.all inR = true) (h2 : hi.all inR = true) w1 (h : Below w.heap.size w w1) => rin_any lo hi mn mx A B c1 c2 w1 (ha.over h) (hb.over h) h1 h2)
  have LT := Lib.hid (show ∀ l : List Int, l.all inR = true → setN l < 18446744073709551616 from fun l h => setN_lt h)
  have hl1 := ha.1
  have hl2 := hb.1
  clear ha hb
  generalize lo.length = n1 at *
  generalize hi.length = n2 at *
  have BA := Lib.hid (show Below w.heap.size w ((w.alloc (.cells #[.slice A n1 c1, .slice B n2 c2, .int .i64 mn, .int .i64 mx] 37)).alloc (.cells #[.slice none 0 0, .slice none 0 0, .int .i64 0, .int .i64 0] 37)) from ((Below.refl _ w).alloc (Nat.le_refl _) _).alloc (by simp) _)
  have BF := Lib.hid (show famCells ((w.alloc (.cells #[.slice A n1 c1, .slice B n2 c2, .int .i64 mn, .int .i64 mx] 37)).alloc (.cells #[.slice none 0 0, .slice none 0 0, .int .i64 0, .int .i64 0] 37)) (w.heap.size + 1) from heap_alloc2_new _ _ _)
  have BX := Lib.hid (show ∀ wx, Below (w.heap.size + 2) ((w.alloc (.cells #[.slice A n1 c1, .slice B n2 c2, .int .i64 mn, .int .i64 mx] 37)).alloc (.cells #[.slice none 0 0, .slice none 0 0, .int .i64 0, .int .i64 0] 37)) wx → wx.cell? ⟨w.heap.size, 0, none⟩ = some (.slice A n1 c1) ∧ wx.cell? ⟨w.heap.size, 1, none⟩ = some (.slice B n2 c2) ∧ wx.cell? ⟨w.heap.size, 2, none⟩ = some (.int .i64 mn) ∧ wx.cell? ⟨w.heap.size, 3, none⟩ = some (.int .i64 mx) from fun wx h => by
    have hh := (h.block w.heap.size (by omega)).trans (heap_alloc2_old w (.cells #[.slice A n1 c1, .slice B n2 c2, .int .i64 mn, .int .i64 mx] 37) _)
    refine ⟨?_, ?_, ?_, ?_⟩ <;> (simp only [World.cell?, hh]; rfl))
  have SZ := Lib.hid (show ∀ y : World, famCells y (w.heap.size + 1) → w.heap.size + 2 ≤ y.heap.size from fun y h => by unfold famCells at h; exact (Array.getElem?_eq_some_iff.1 h).1)
  cases hV : validFB lo hi mn mx with
  | false =>
    rw [hV] at VP
    clear BO VL hV SZ LT
    go_enter Tryd.func28, Tryd.ntmps28
    go_wp2_with ((go_at_call 34; refine (VP.out _ BA.out).mono ?_; rintro e y1 ⟨rfl, hb⟩; have H1 := Lib.hid (show Below (w.heap.size + 2) _ _ from hb.mono (by simp)); have B1 := Lib.hid (BA.out.trans (hb.mono BA.out.size)); have F1 := Lib.hid (show famCells y1 (w.heap.size + 1) from (H1.out.block _ (by omega)).trans BF.out); obtain ⟨q0, q1, q2, q3, fz⟩ := famCells_facts F1.out; obtain ⟨x0, x1, x2, x3⟩ := BX.out _ H1.out; clear hb VP))
    clear q0 q1 q2 q3 fz
    have pz := fam_put (show y1.heap[w.heap.size + 1]? = some (.cells #[.slice none 0 0, .slice none 0 0, .int .i64 0, .int .i64 0] 37 (0, 0)) from F1.out) (.slice none 0 0) (.slice none 0 0) (.int .i64 0) (.int .i64 0)
    refine bodyPost_ret (v := .tuple #[.agg #[.slice none 0 0, .slice none 0 0, .int .i64 0, .int .i64 0], .int .i64 2]) (Eq.trans (results_row_tmp (p := 2) (u := 3) rfl _ _ (w.heap.size + 1) 37 _ (0, 0) _ rfl pz.1 Tryd.underlying37 rfl (by kernel_rfl)) rfl) rfl ?_
    exact ⟨by rw [if_neg Bool.false_ne_true], B1.out.trans (pz.2.1.mono (by omega))⟩
  | true =>
    obtain ⟨hr1, hr2⟩ := VL.out hV
    rw [hV] at VP
    have BO := Lib.hid (BO.out hr1 hr2)
    have hL := LT.out _ hr1
    have hH := LT.out _ hr2
    clear VL hV hr1 hr2 LT
    generalize setN lo = L at *
    generalize setN hi = H at *
    have PN := Lib.hid (fun w1 => rnormal_any L H mn mx w1 hL hH)
    have PO := Lib.hid (fun w1 => rout_any (nlo L H mn) (nhi L H mn mx) (nmn L mn) (nmx H mx) w1 (nlo_lt hL hH) (nhi_lt hL hH))
    unfold RNorm at PN
    clear hL hH
    cases hK : okN L H mn mx with
    | false =>
      rw [hK] at PN
      simp only [Bool.false_eq_true, if_false] at PN
      clear PO
      go_enter Tryd.func28, Tryd.ntmps28
      go_upto_region 4 with (first | (go_at_call 34; refine (VP.out _ BA.out).mono ?_; rintro e y1 ⟨rfl, hb⟩; have H1 := Lib.hid (show Below (w.heap.size + 2) _ _ from hb.mono (by simp)); have B1 := Lib.hid (BA.out.trans (hb.mono BA.out.size)); have F1 := Lib.hid (show famCells y1 (w.heap.size + 1) from (H1.out.block _ (by omega)).trans BF.out); obtain ⟨q0, q1, q2, q3, fz⟩ := famCells_facts F1.out; obtain ⟨x0, x1, x2, x3⟩ := BX.out _ H1.out; clear hb VP) | (go_at_call 62; clear q0 q1 q2 q3 fz x0 x1 x2 x3; refine (BO.out _ B1.out).mono ?_; rintro e y2 ⟨rfl, hb⟩; have B2 := Lib.hid (B1.out.trans (hb.mono B1.out.size)); have H2 := Lib.hid (H1.out.trans (hb.mono (SZ.out _ F1.out))); have F2 := Lib.hid (show famCells y2 (w.heap.size + 1) from (H2.out.block _ (by omega)).trans BF.out); clear hb BO) | (go_at_call 61; refine (PN.out _).mono ?_; rintro e y3 ⟨rfl, hb⟩; have B3 := Lib.hid (B2.out.trans (hb.mono B2.out.size)); have H3 := Lib.hid (H2.out.trans (hb.mono (SZ.out _ F2.out))); have F3 := Lib.hid (show famCells y3 (w.heap.size + 1) from (H3.out.block _ (by omega)).trans BF.out); clear hb PN))
      have v0 := heap_alloc_new y3 (.cells #[.int .u64 0, .int .u64 0, .int .i64 0, .int .i64 0, .bool true] 88)
      have bl := (Below.refl y3.heap.size y3).alloc (Nat.le_refl _) (.cells #[.int .u64 0, .int .u64 0, .int .i64 0, .int .i64 0, .bool true] 88)
      have F9 := Lib.hid (show famCells (y3.alloc (.cells #[.int .u64 0, .int .u64 0, .int .i64 0, .int .i64 0, .bool true] 88)) (w.heap.size + 1) from (bl.block _ (by have := SZ.out _ F3.out; omega)).trans F3.out)
      have B9 := Lib.hid (B3.out.trans (bl.mono B3.out.size))
      have H9 := Lib.hid (H3.out.trans (bl.mono (SZ.out _ F3.out)))
      generalize y3.alloc (.cells #[.int .u64 0, .int .u64 0, .int .i64 0, .int .i64 0, .bool true] 88) = y4 at *
      clear bl
      have c4 : y4.cell? ⟨y3.heap.size, 4, none⟩ = some (.bool true) := by simp only [World.cell?, v0]; rfl
      clear v0
      generalize y3.heap.size = g at *
      obtain ⟨q0, q1, q2, q3, fz⟩ := famCells_facts F9.out
      go_wp2_with fail
      clear q0 q1 q2 q3 fz
      have pz := fam_put (show y4.heap[w.heap.size + 1]? = some (.cells #[.slice none 0 0, .slice none 0 0, .int .i64 0, .int .i64 0] 37 (0, 0)) from F9.out) (.slice none 0 0) (.slice none 0 0) (.int .i64 0) (.int .i64 0)
      refine bodyPost_ret (v := .tuple #[.agg #[.slice none 0 0, .slice none 0 0, .int .i64 0, .int .i64 0], .int .i64 60]) (Eq.trans (results_row_tmp (p := 2) (u := 3) rfl _ _ (w.heap.size + 1) 37 _ (0, 0) _ rfl pz.1 Tryd.underlying37 rfl (by kernel_rfl)) rfl) rfl ?_
      exact ⟨by rw [if_pos rfl]; unfold NormRes; rw [hK, if_neg Bool.false_ne_true], B9.out.trans (pz.2.1.mono (by omega))⟩
    | true =>
      rw [hK] at PN
      simp only [if_true] at PN
      go_enter Tryd.func28, Tryd.ntmps28
      go_upto_region 4 with (first | (go_at_call 34; refine (VP.out _ BA.out).mono ?_; rintro e y1 ⟨rfl, hb⟩; have H1 := Lib.hid (show Below (w.heap.size + 2) _ _ from hb.mono (by simp)); have B1 := Lib.hid (BA.out.trans (hb.mono BA.out.size)); have F1 := Lib.hid (show famCells y1 (w.heap.size + 1) from (H1.out.block _ (by omega)).trans BF.out); obtain ⟨q0, q1, q2, q3, fz⟩ := famCells_facts F1.out; obtain ⟨x0, x1, x2, x3⟩ := BX.out _ H1.out; clear hb VP) | (go_at_call 62; clear q0 q1 q2 q3 fz x0 x1 x2 x3; refine (BO.out _ B1.out).mono ?_; rintro e y2 ⟨rfl, hb⟩; have B2 := Lib.hid (B1.out.trans (hb.mono B1.out.size)); have H2 := Lib.hid (H1.out.trans (hb.mono (SZ.out _ F1.out))); have F2 := Lib.hid (show famCells y2 (w.heap.size + 1) from (H2.out.block _ (by omega)).trans BF.out); clear hb BO) | (go_at_call 61; refine (PN.out _).mono ?_; rintro e y3 ⟨rfl, hb⟩; have B3 := Lib.hid (B2.out.trans (hb.mono B2.out.size)); have H3 := Lib.hid (H2.out.trans (hb.mono (SZ.out _ F2.out))); have F3 := Lib.hid (show famCells y3 (w.heap.size + 1) from (H3.out.block _ (by omega)).trans BF.out); clear hb PN))
      have v0 := heap_alloc_new y3 (.cells #[.int .u64 (nlo L H mn : Nat), .int .u64 (nhi L H mn mx : Nat), .int .i64 (nmn L mn), .int .i64 (nmx H mx), .bool false] 88)
      have bl := (Below.refl y3.heap.size y3).alloc (Nat.le_refl _) (.cells #[.int .u64 (nlo L H mn : Nat), .int .u64 (nhi L H mn mx : Nat), .int .i64 (nmn L mn), .int .i64 (nmx H mx), .bool false] 88)
      have F9 := Lib.hid (show famCells (y3.alloc (.cells #[.int .u64 (nlo L H mn : Nat), .int .u64 (nhi L H mn mx : Nat), .int .i64 (nmn L mn), .int .i64 (nmx H mx), .bool false] 88)) (w.heap.size + 1) from (bl.block _ (by have := SZ.out _ F3.out; omega)).trans F3.out)
      have B9 := Lib.hid (B3.out.trans (bl.mono B3.out.size))
      have H9 := Lib.hid (H3.out.trans (bl.mono (SZ.out _ F3.out)))
      generalize y3.alloc (.cells #[.int .u64 (nlo L H mn : Nat), .int .u64 (nhi L H mn mx : Nat), .int .i64 (nmn L mn), .int .i64 (nmx H mx), .bool false] 88) = y4 at *
      clear bl
      have c0 : y4.cell? ⟨y3.heap.size, 0, none⟩ = some (.int .u64 (nlo L H mn : Nat)) := by simp only [World.cell?, v0]; rfl
      have c1 : y4.cell? ⟨y3.heap.size, 1, none⟩ = some (.int .u64 (nhi L H mn mx : Nat)) := by simp only [World.cell?, v0]; rfl
      have c2 : y4.cell? ⟨y3.heap.size, 2, none⟩ = some (.int .i64 (nmn L mn)) := by simp only [World.cell?, v0]; rfl
      have c3 : y4.cell? ⟨y3.heap.size, 3, none⟩ = some (.int .i64 (nmx H mx)) := by simp only [World.cell?, v0]; rfl
      have c4 : y4.cell? ⟨y3.heap.size, 4, none⟩ = some (.bool false) := by simp only [World.cell?, v0]; rfl
      clear v0
      generalize y3.heap.size = g at *
      go_wp2_with ((go_at_call 63; refine (PO.out _).mono ?_; rintro e y5 ⟨⟨v, rfl, fo⟩, hb⟩; obtain ⟨v1, v2, rfl, r1, r2, ap⟩ := fo; obtain ⟨G1, k1, rfl⟩ := r1.1; obtain ⟨G2, k2, rfl⟩ := r2.1; have R1 := Lib.hid r1; have R2 := Lib.hid r2; have AP := Lib.hid ap; have B5 := Lib.hid (B9.out.trans (hb.mono B9.out.size)); have F5 := Lib.hid (show famCells y5 (w.heap.size + 1) from (hb.block _ (by have := SZ.out _ F9.out; omega)).trans F9.out); have h95 : w.heap.size + 2 ≤ y4.heap.size := SZ.out _ F9.out; obtain ⟨q0, q1, q2, q3, fz⟩ := famCells_facts F5.out; clear r1 r2 ap hb PO))
      clear q0 q1 q2 q3 fz
      have pz := fam_put (show y5.heap[w.heap.size + 1]? = some (.cells #[.slice none 0 0, .slice none 0 0, .int .i64 0, .int .i64 0] 37 (0, 0)) from F5.out) (.slice G1 (bitsOf 64 0 (nlo L H mn)).length k1) (.slice G2 (bitsOf 64 0 (nhi L H mn mx)).length k2) (.int .i64 (nmn L mn)) (.int .i64 (nmx H mx))
      refine bodyPost_ret (v := .tuple #[.agg #[.slice G1 (bitsOf 64 0 (nlo L H mn)).length k1, .slice G2 (bitsOf 64 0 (nhi L H mn mx)).length k2, .int .i64 (nmn L mn), .int .i64 (nmx H mx)], .int .i64 0]) (Eq.trans (results_row_tmp (p := 2) (u := 3) rfl _ _ (w.heap.size + 1) 37 _ (0, 0) _ rfl pz.1 Tryd.underlying37 rfl (by kernel_rfl)) rfl) rfl ?_
      refine ⟨?_, B5.out.trans (pz.2.1.mono (by omega))⟩
      rw [if_pos rfl]; unfold NormRes; rw [if_pos hK]
      refine ⟨_, rfl, _, _, rfl, R1.out.past (fun b hb => pz.2.2 b ?_) (by omega), R2.out.past (fun b hb => pz.2.2 b ?_) (by omega), AP.out⟩
      · have := (R1.out.lt hb).1; omega
      · have := (R2.out.lt hb).1; omega
end Go.Proofs.YtgjphbkaonaneaaDoor
