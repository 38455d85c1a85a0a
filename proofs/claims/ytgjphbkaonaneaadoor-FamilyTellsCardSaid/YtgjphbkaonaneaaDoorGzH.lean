/-
  Count: the program's.
-/
import Derived.Test.YtgjphbkaonaneaaDoorGzG
import Derived.Test.YtgjphbkaonaneaaDoorFhAw
namespace Go.Proofs.YtgjphbkaonaneaaDoor
set_option linter.unusedSimpArgs false
open Go Go.RowKit Go.Shelf Go.Ev

/-- what Count comes out as -/
def CntRes (v : Bool) (n : Nat) (w : World) (e : Ending) (w' : World) : Prop :=
  e = .returned (if v = true then (if n ≤ 4611686018427387904 then .tuple #[.int .i64 (n : Nat), .int .i64 0] else .tuple #[.int .i64 0, .int .i64 4]) else .tuple #[.int .i64 0, .int .i64 2]) ∧ Below w.heap.size w w'
set_option maxRecDepth 100000 in
set_option maxHeartbeats 8000000 in
theorem Count_p_any (lo hi : List Int) (mn mx : Int) (A B : Option Addr) (c1 c2 : Nat) (w : World) (ha : Ints w A lo) (hb : Ints w B hi) :
    Calls Tryd.prog 31 #[.agg #[.slice A lo.length c1, .slice B hi.length c2, .int .i64 mn, .int .i64 mx]] w (CntRes (validFB lo hi mn mx) (cntN (setN lo) (setN hi) mn mx) w) := by
  have VP := Lib.hid (fun w1 (h : Below w.heap.size w w1) => FValid_p_any lo hi mn mx A B c1 c2 w1 (ha.over h) (hb.over h))
  have VL := Lib.hid (show validFB lo hi mn mx = true → lo.all inR = true ∧ hi.all inR = true from fun h => by
    unfold validFB elemsB at h
    simp only [Bool.and_eq_true] at h
    exact ⟨h.1.1.1.2, h.1.1.2.2⟩)
  have BO := Lib.hid (fun (h1 : lo.all inR = true) (h2 : hi.all inR = true) w1 (h : Below w.heap.size w w1) => boundsOf_any lo hi mn mx A B c1 c2 w1 (ha.over h) (hb.over h) h1 h2)
  have LT := Lib.hid (show ∀ l : List Int, l.all inR = true → setN l < 18446744073709551616 from fun l h => setN_lt h)
  have hl1 := ha.1
  have hl2 := hb.1
  clear ha hb
  generalize lo.length = n1 at *
  generalize hi.length = n2 at *
  have BA := Lib.hid (show Below w.heap.size w (w.alloc (.cells #[.slice A n1 c1, .slice B n2 c2, .int .i64 mn, .int .i64 mx] 37)) from (Below.refl _ w).alloc (Nat.le_refl _) _)
  have BX := Lib.hid (show ∀ wx : World, Below (w.heap.size + 1) (w.alloc (.cells #[.slice A n1 c1, .slice B n2 c2, .int .i64 mn, .int .i64 mx] 37)) wx → wx.cell? ⟨w.heap.size, 0, none⟩ = some (.slice A n1 c1) ∧ wx.cell? ⟨w.heap.size, 1, none⟩ = some (.slice B n2 c2) ∧ wx.cell? ⟨w.heap.size, 2, none⟩ = some (.int .i64 mn) ∧ wx.cell? ⟨w.heap.size, 3, none⟩ = some (.int .i64 mx) from fun wx h => by
    have hh := (h.block w.heap.size (by omega)).trans (heap_alloc_new w (.cells #[.slice A n1 c1, .slice B n2 c2, .int .i64 mn, .int .i64 mx] 37))
    refine ⟨?_, ?_, ?_, ?_⟩ <;> (simp only [World.cell?, hh]; rfl))
  have hz : w.heap.size + 1 ≤ (w.alloc (.cells #[.slice A n1 c1, .slice B n2 c2, .int .i64 mn, .int .i64 mx] 37)).heap.size := by simp
  cases hV : validFB lo hi mn mx with
  | false =>
    rw [hV] at VP
    clear BO VL hV LT
    go_enter Tryd.func31, Tryd.ntmps31
    go_wp2_with ((go_at_call 33; refine (VP.out _ BA.out).mono ?_; rintro e y1 ⟨rfl, hb⟩; have H1 := Lib.hid (show Below (w.heap.size + 1) _ _ from hb.mono (by simp)); have B1 := Lib.hid (BA.out.trans (hb.mono BA.out.size)); have hs1 : w.heap.size + 1 ≤ y1.heap.size := Nat.le_trans hz hb.size; obtain ⟨x0, x1, x2, x3⟩ := BX.out _ H1.out; clear hb VP))
    refine bodyPost_ret (v := .tuple #[.int .i64 0, .int .i64 2]) (by simp [results, Tryd.results31, go_sem]) rfl ?_
    exact ⟨by rw [if_neg Bool.false_ne_true], B1.out⟩
  | true =>
    obtain ⟨hr1, hr2⟩ := VL.out hV
    rw [hV] at VP
    have BO := Lib.hid (BO.out hr1 hr2)
    have HL := Lib.hid (LT.out _ hr1)
    have HH := Lib.hid (LT.out _ hr2)
    clear VL hV hr1 hr2 LT
    generalize setN lo = L at *
    generalize setN hi = H at *
    go_enter Tryd.func31, Tryd.ntmps31
    go_upto_region 4 with (first | (go_at_call 33; refine (VP.out _ BA.out).mono ?_; rintro e y1 ⟨rfl, hb⟩; have H1 := Lib.hid (show Below (w.heap.size + 1) _ _ from hb.mono (by simp)); have B1 := Lib.hid (BA.out.trans (hb.mono BA.out.size)); have hs1 : w.heap.size + 1 ≤ y1.heap.size := Nat.le_trans hz hb.size; obtain ⟨x0, x1, x2, x3⟩ := BX.out _ H1.out; clear hb VP) | (go_at_call 59; clear x0 x1 x2 x3; refine (BO.out _ B1.out).mono ?_; rintro e y2 ⟨rfl, hb⟩; have B2 := Lib.hid (B1.out.trans (hb.mono B1.out.size)); have hs2 : w.heap.size + 1 ≤ y2.heap.size := Nat.le_trans hs1 hb.size; clear hb BO))
    have v0 := heap_alloc_new y2 (.cells #[.int .u64 (L : Nat), .int .u64 (H : Nat), .int .i64 mn, .int .i64 mx] 83)
    have bl := (Below.refl y2.heap.size y2).alloc (Nat.le_refl _) (.cells #[.int .u64 (L : Nat), .int .u64 (H : Nat), .int .i64 mn, .int .i64 mx] 83)
    generalize y2.alloc (.cells #[.int .u64 (L : Nat), .int .u64 (H : Nat), .int .i64 mn, .int .i64 mx] 83) = y3 at *
    obtain ⟨g, hg⟩ : ∃ g, y2.heap.size = g := ⟨_, rfl⟩
    rw [hg] at v0 bl hs2 ⊢
    have V0 := Lib.hid (show Bd y3 g L H mn mx from v0)
    have B3 := Lib.hid (B2.out.trans (bl.mono (by omega)))
    clear v0 bl
    have NM := Lib.hid (fun w1 (h : Bd w1 g L H mn mx) => normalize_any g L H mn mx w1 h HL.out HH.out)
    unfold NormOk at NM
    cases hK : okN L H mn mx with
    | false =>
      have CN := Lib.hid (cnt_fail HL.out HH.out hK)
      rw [hK] at NM
      go_wp2_with (go_at_call 65; refine (NM.out _ V0.out).mono ?_; rintro e y4 ⟨rfl, o4, _⟩; have B4 := Lib.hid (B3.out.trans (o4.1.mono (by omega))); clear o4 NM)
      refine bodyPost_ret (v := .tuple #[.int .i64 0, .int .i64 0]) (by simp [results, Tryd.results31, go_sem]) rfl ?_
      exact ⟨by rw [if_pos rfl, CN.out, if_pos (by decide)]; rfl, B4.out⟩
    | true =>
      obtain ⟨CN, k1, k2, k3, k4, k5⟩ := cnt_prog HL.out HH.out hK
      have hL1 := nlo_lt (mn := mn) HL.out HH.out
      have hH1 := nhi_lt (mn := mn) (mx := mx) HL.out HH.out
      replace CN := Lib.hid CN
      rw [hK] at NM
      clear hK
      generalize nlo L H mn = L1 at *
      generalize nhi L H mn mx = H1 at *
      generalize nmn L mn = M at *
      generalize nmx H mx = X at *
      have SL := Lib.hid (fun w1 => fsize_any L1 w1 hL1)
      have SH := Lib.hid (fun w1 => fsize_any H1 w1 hH1)
      clear hL1 hH1
      obtain ⟨K, hKn⟩ : ∃ K, ones L1 = K := ⟨_, rfl⟩
      rw [hKn] at SL CN k1 k3
      clear hKn
      obtain ⟨N, hN⟩ : ∃ N, ones H1 = K + N := ⟨ones H1 - K, by omega⟩
      rw [hN, show K + N - K = N by omega] at CN
      rw [hN] at SH k2 k3 k5
      clear hN
      obtain ⟨a, rfl⟩ : ∃ a : Nat, M = (K : Int) + a := ⟨(M - K).toNat, by omega⟩
      obtain ⟨c, rfl⟩ : ∃ c : Nat, X = (K : Int) + a + c := ⟨(X - (K + a)).toNat, by omega⟩
      replace CN := Lib.hid (show cntN L H mn mx = sumr (ch N) a (c + 1) from by rw [CN.out, show ((K : Int) + a - (K : Nat)).toNat = a by omega, show ((K : Int) + a + c - ((K : Int) + a) + 1).toNat = c + 1 by omega])
      have hac : a + c ≤ N := by omega
      have hN64 : K + N ≤ 64 := k5
      clear k1 k2 k3 k4 k5
      generalize cntN L H mn mx = TOT at *
      have CH := Lib.hid (fun w1 => choices_any N (by omega) w1)
      go_wp2_with (first | (go_at_call 65; refine (NM.out _ V0.out).mono ?_; rintro e y4 ⟨rfl, o4, b4⟩; have V4 := Lib.hid (b4 rfl); have B4 := Lib.hid (B3.out.trans (o4.1.mono (by omega))); obtain ⟨kk0, kk1, kk2, kk3, _⟩ := V4.out.facts; clear o4 b4 NM) | (go_at_call 66; refine (SL.out _).mono ?_; rintro e y5 ⟨rfl, rfl⟩; clear SL))
      have S0 : (fun wx : World => wx.cell? ⟨g, 1, none⟩ = some (.int .u64 H1) ∧ wx.cell? ⟨g, 2, none⟩ = some (.int .i64 ((K : Int) + a)) ∧ wx.cell? ⟨g, 3, none⟩ = some (.int .i64 ((K : Int) + a + c))) y5.drew := ⟨V4.out.facts.2.1, V4.out.facts.2.2.1, V4.out.facts.2.2.2.1⟩
      refine wp_region_held_drew (S := fun (wx : World) => wx.cell? ⟨g, 1, none⟩ = some (.int .u64 H1) ∧ wx.cell? ⟨g, 2, none⟩ = some (.int .i64 ((K : Int) + a)) ∧ wx.cell? ⟨g, 3, none⟩ = some (.int .i64 ((K : Int) + a + c))) (by kernel_rfl) S0 (fun hHeld => ?_)
      clear S0 kk0 kk1 kk2 kk3
      have V5 := Lib.hid (show Bd y5.drew g L1 H1 ((K : Int) + a) ((K : Int) + a + c) from V4.out)
      have B5 := Lib.hid (show Below w.heap.size w y5.drew from B4.out.drew)
      clear V4 B4
      generalize y5.drew = V at *
      have w1 : IntKind.i64.wrap ((K : Int) + (N : Int) - (K : Int)) = (N : Int) := wrap63 (by omega) (by omega)
      have w2 : IntKind.i64.wrap ((K : Int) + (a : Int) - (K : Int)) = (a : Int) := wrap63 (by omega) (by omega)
      have w3 : IntKind.i64.wrap ((K : Int) + (a : Int) + (c : Int) - (K : Int)) = ((a + c : Nat) : Int) := wrap63 (by omega) (by omega)
      have w4 : IntKind.i64.wrap ((a : Int) + (c : Int) + 1) = ((a + c + 1 : Nat) : Int) := wrap63 (by omega) (by omega)
      refine wpAnyH_take (i := 0) (oi := { dst := some 19, op := Op.fieldAddr 83 (Operand.tmp 4) 1, type := 0, pos := "count.go:19", after := #[], guard := none }) (v := ?vn1k0) rfl (by kernel_rfl) (by kernel_rfl) (by kernel_rfl) (fun _ _ _ h => h) (Or.inl ⟨by kernel_rfl, ?yn1k0⟩) (by assumption) ?rn1k0
      case yn1k0 => intro w hSw; (try dsimp only at hSw); go_simp; try with_reducible rfl
      try simp only [Act.put, List.setIfInBounds_toArray, List.set_cons_zero, List.set_cons_succ]
      refine wpAnyH_take (i := 1) (oi := { dst := some 20, op := Op.load 81 (Operand.tmp 19), type := 81, pos := "count.go:19", after := #[{ on := 0, ground := Ground.data }], guard := none }) (v := ?vn2k1) rfl (by kernel_rfl) (by kernel_rfl) (by kernel_rfl) (fun _ _ _ h => h) (Or.inl ⟨by kernel_rfl, ?yn2k1⟩) (by assumption) ?rn2k1
      case yn2k1 => intro w hSw; (try dsimp only at hSw); go_simp; try with_reducible rfl
      try simp only [Act.put, List.setIfInBounds_toArray, List.set_cons_zero, List.set_cons_succ]
      refine wpAnyH_take (i := 3) (oi := { dst := some 22, op := Op.move (Operand.tmp 5), type := 3, pos := "count.go:19", after := #[], guard := none }) (v := ?vn3k3) rfl (by kernel_rfl) (by kernel_rfl) (by kernel_rfl) (fun _ _ _ h => h) (Or.inl ⟨by kernel_rfl, ?yn3k3⟩) (by assumption) ?rn3k3
      case yn3k3 => intro w hSw; (try dsimp only at hSw); go_simp; try with_reducible rfl
      try simp only [Act.put, List.setIfInBounds_toArray, List.set_cons_zero, List.set_cons_succ]
      refine wpAnyH_take (i := 6) (oi := { dst := some 25, op := Op.fieldAddr 83 (Operand.tmp 4) 2, type := 0, pos := "count.go:19", after := #[], guard := none }) (v := ?vn4k6) rfl (by kernel_rfl) (by kernel_rfl) (by kernel_rfl) (fun _ _ _ h => h) (Or.inl ⟨by kernel_rfl, ?yn4k6⟩) (by assumption) ?rn4k6
      case yn4k6 => intro w hSw; (try dsimp only at hSw); go_simp; try with_reducible rfl
      try simp only [Act.put, List.setIfInBounds_toArray, List.set_cons_zero, List.set_cons_succ]
      refine wpAnyH_take (i := 7) (oi := { dst := some 26, op := Op.load 3 (Operand.tmp 25), type := 3, pos := "count.go:19", after := #[{ on := 6, ground := Ground.data }], guard := none }) (v := ?vn5k7) rfl (by kernel_rfl) (by kernel_rfl) (by kernel_rfl) (fun _ _ _ h => h) (Or.inl ⟨by kernel_rfl, ?yn5k7⟩) (by assumption) ?rn5k7
      case yn5k7 => intro w hSw; (try dsimp only at hSw); go_simp; try with_reducible rfl
      try simp only [Act.put, List.setIfInBounds_toArray, List.set_cons_zero, List.set_cons_succ]
      refine wpAnyH_take (i := 8) (oi := { dst := some 27, op := Op.move (Operand.tmp 5), type := 3, pos := "count.go:19", after := #[], guard := none }) (v := ?vn6k8) rfl (by kernel_rfl) (by kernel_rfl) (by kernel_rfl) (fun _ _ _ h => h) (Or.inl ⟨by kernel_rfl, ?yn6k8⟩) (by assumption) ?rn6k8
      case yn6k8 => intro w hSw; (try dsimp only at hSw); go_simp; try with_reducible rfl
      try simp only [Act.put, List.setIfInBounds_toArray, List.set_cons_zero, List.set_cons_succ]
      refine wpAnyH_take (i := 9) (oi := { dst := some 28, op := Op.binOp BinOp.sub 3 (Operand.tmp 26) (Operand.tmp 27) 3, type := 3, pos := "count.go:19", after := #[{ on := 7, ground := Ground.data }, { on := 8, ground := Ground.data }], guard := none }) (v := ?vn7k9) rfl (by kernel_rfl) (by kernel_rfl) (by kernel_rfl) (fun _ _ _ h => h) (Or.inl ⟨by kernel_rfl, ?yn7k9⟩) (by assumption) ?rn7k9
      case yn7k9 => intro w hSw; (try dsimp only at hSw); go_simp; try with_reducible rfl
      try simp only [Act.put, List.setIfInBounds_toArray, List.set_cons_zero, List.set_cons_succ]
      refine wpAnyH_take (i := 10) (oi := { dst := some 29, op := Op.fieldAddr 83 (Operand.tmp 4) 3, type := 0, pos := "count.go:19", after := #[], guard := none }) (v := ?vn8k10) rfl (by kernel_rfl) (by kernel_rfl) (by kernel_rfl) (fun _ _ _ h => h) (Or.inl ⟨by kernel_rfl, ?yn8k10⟩) (by assumption) ?rn8k10
      case yn8k10 => intro w hSw; (try dsimp only at hSw); go_simp; try with_reducible rfl
      try simp only [Act.put, List.setIfInBounds_toArray, List.set_cons_zero, List.set_cons_succ]
      refine wpAnyH_take (i := 11) (oi := { dst := some 30, op := Op.load 3 (Operand.tmp 29), type := 3, pos := "count.go:19", after := #[{ on := 10, ground := Ground.data }], guard := none }) (v := ?vn9k11) rfl (by kernel_rfl) (by kernel_rfl) (by kernel_rfl) (fun _ _ _ h => h) (Or.inl ⟨by kernel_rfl, ?yn9k11⟩) (by assumption) ?rn9k11
      case yn9k11 => intro w hSw; (try dsimp only at hSw); go_simp; try with_reducible rfl
      try simp only [Act.put, List.setIfInBounds_toArray, List.set_cons_zero, List.set_cons_succ]
      refine wpAnyH_take (i := 12) (oi := { dst := some 31, op := Op.move (Operand.tmp 5), type := 3, pos := "count.go:19", after := #[], guard := none }) (v := ?vn10k12) rfl (by kernel_rfl) (by kernel_rfl) (by kernel_rfl) (fun _ _ _ h => h) (Or.inl ⟨by kernel_rfl, ?yn10k12⟩) (by assumption) ?rn10k12
      case yn10k12 => intro w hSw; (try dsimp only at hSw); go_simp; try with_reducible rfl
      try simp only [Act.put, List.setIfInBounds_toArray, List.set_cons_zero, List.set_cons_succ]
      refine wpAnyH_take (i := 13) (oi := { dst := some 32, op := Op.binOp BinOp.sub 3 (Operand.tmp 30) (Operand.tmp 31) 3, type := 3, pos := "count.go:19", after := #[{ on := 11, ground := Ground.data }, { on := 12, ground := Ground.data }], guard := none }) (v := ?vn11k13) rfl (by kernel_rfl) (by kernel_rfl) (by kernel_rfl) (fun _ _ _ h => h) (Or.inl ⟨by kernel_rfl, ?yn11k13⟩) (by assumption) ?rn11k13
      case yn11k13 => intro w hSw; (try dsimp only at hSw); go_simp; try with_reducible rfl
      try simp only [Act.put, List.setIfInBounds_toArray, List.set_cons_zero, List.set_cons_succ]
      refine wpAnyH_take (i := 14) (oi := { dst := some 33, op := Op.binOp BinOp.add 3 (Operand.tmp 32) (Operand.const (Value.int IntKind.i64 1)) 3, type := 3, pos := "count.go:19", after := #[{ on := 13, ground := Ground.data }], guard := none }) (v := ?vn12k14) rfl (by kernel_rfl) (by kernel_rfl) (by kernel_rfl) (fun _ _ _ h => h) (Or.inl ⟨by kernel_rfl, ?yn12k14⟩) (by assumption) ?rn12k14
      case yn12k14 => intro w hSw; (try dsimp only at hSw); go_simp; try with_reducible rfl
      try simp only [Act.put, List.setIfInBounds_toArray, List.set_cons_zero, List.set_cons_succ]
      refine wpAnyH_take (i := 17) (oi := { dst := some 36, op := Op.move (Operand.const (Value.int IntKind.i64 0)), type := 3, pos := "count.go:19", after := #[], guard := none }) (v := ?vn13k17) rfl (by kernel_rfl) (by kernel_rfl) (by kernel_rfl) (fun _ _ _ h => h) (Or.inl ⟨by kernel_rfl, ?yn13k17⟩) (by assumption) ?rn13k17
      case yn13k17 => intro w hSw; (try dsimp only at hSw); go_simp; try with_reducible rfl
      try simp only [Act.put, List.setIfInBounds_toArray, List.set_cons_zero, List.set_cons_succ]
      refine wpAnyH_ready (rs := [2]) (by kernel_rfl) (by simp) (AllReadyH.cons (o := { dst := some 21, op := Op.call { callee := Callee.value (Operand.func 66), args := #[Operand.tmp 20], argTypes := #[81] }, type := 3, pos := "count.go:19", after := #[{ on := 1, ground := Ground.data }], guard := none }) rfl (fun KK hK => ?_) AllReadyH.nil)
      go_simp
      refine (SH.out _).mono ?_
      rintro e y6 ⟨rfl, rfl⟩
      clear hHeld
      refine hK.out _ _ ⟨V5.out.facts.2.1, V5.out.facts.2.2.1, V5.out.facts.2.2.2.1⟩ (fun hHeld => ?_)
      clear hK KK
      try simp only [Act.put, List.setIfInBounds_toArray, List.set_cons_zero, List.set_cons_succ]
      refine wpAnyH_take (i := 4) (oi := { dst := some 23, op := Op.binOp BinOp.sub 3 (Operand.tmp 21) (Operand.tmp 22) 3, type := 3, pos := "count.go:19", after := #[{ on := 2, ground := Ground.data }, { on := 3, ground := Ground.data }], guard := none }) (v := ?vn14k4) rfl (by kernel_rfl) (by kernel_rfl) (by kernel_rfl) (fun _ _ _ h => h) (Or.inl ⟨by kernel_rfl, ?yn14k4⟩) (by assumption) ?rn14k4
      case yn14k4 => intro w hSw; (try dsimp only at hSw); go_simp; try with_reducible rfl
      try simp only [Act.put, List.setIfInBounds_toArray, List.set_cons_zero, List.set_cons_succ]
      refine wpAnyH_ready (rs := [5]) (by kernel_rfl) (by simp) (AllReadyH.cons (o := { dst := some 24, op := Op.call { callee := Callee.value (Operand.func 67), args := #[Operand.tmp 23], argTypes := #[3] }, type := 23, pos := "count.go:19", after := #[{ on := 4, ground := Ground.data }, { on := 2, ground := Ground.chain }], guard := none }) rfl (fun KK hK => ?_) AllReadyH.nil)
      go_simp
      refine (CH.out _).mono ?_
      rintro e y7 ⟨q, rfl, hq, hr, hb⟩
      have RR := Lib.hid hr
      have hgq : g < y6.heap.size := (Array.getElem?_eq_some_iff.1 V5.out).1
      replace V5 := Lib.hid (show Bd y7 g L1 H1 ((K : Int) + a) ((K : Int) + a + c) from (hb.block g hgq).trans V5.out)
      replace B5 := Lib.hid (B5.out.trans (hb.mono B5.out.size))
      clear hr hb hgq
      clear hHeld
      refine hK.out _ _ ⟨V5.out.facts.2.1, V5.out.facts.2.2.1, V5.out.facts.2.2.2.1⟩ (fun hHeld => ?_)
      clear hK KK
      try simp only [Act.put, List.setIfInBounds_toArray, List.set_cons_zero, List.set_cons_succ]
      have u1 : (0 : Int) ≤ (a : Int) := by omega
      have u2 : (a : Int) ≤ ((a + c + 1 : Nat) : Int) := by omega
      have u3 : ((a + c + 1 : Nat) : Int) ≤ ((N + 1 : Nat) : Int) := by omega
      have u4 : a ≤ a + c + 1 := by omega
      have u5 : a + c + 1 ≤ N + 1 := by omega
      have u6 : a + c ≤ N := by omega
      have u7 : (a : Int) ≤ (a : Int) + c + 1 := by omega
      have u8 : (a : Int) + c ≤ N := by omega
      have u9 : (a : Int) + c + 1 ≤ (N : Int) + 1 := by omega
      have v1 : ¬ (N + 1 = a) := by omega
      have v2 : ((a : Int) + (c : Int) + 1).toNat - a = c + 1 := by omega
      refine wpAnyH_take (i := 15) (oi := { dst := some 34, op := Op.slice 23 (Operand.tmp 24) (some (Operand.tmp 28)) (some (Operand.tmp 33)) none, type := 23, pos := "count.go:19", after := #[{ on := 5, ground := Ground.data }, { on := 9, ground := Ground.data }, { on := 14, ground := Ground.data }], guard := none }) (v := ?vn15k15) rfl (by kernel_rfl) (by kernel_rfl) (by kernel_rfl) (fun _ _ _ h => h) (Or.inl ⟨by kernel_rfl, ?yn15k15⟩) (by assumption) ?rn15k15
      case yn15k15 => intro w hSw; (try dsimp only at hSw); go_simp; try with_reducible rfl
      try simp only [Act.put, List.setIfInBounds_toArray, List.set_cons_zero, List.set_cons_succ]
      refine wpAnyH_take (i := 16) (oi := { dst := some 35, op := Op.call { callee := Callee.builtin Builtin.len, args := #[Operand.tmp 34], argTypes := #[23] }, type := 3, pos := "count.go:19", after := #[{ on := 15, ground := Ground.data }], guard := none }) (v := ?vn16k16) rfl (by kernel_rfl) (by kernel_rfl) (by kernel_rfl) (fun _ _ _ h => h) (Or.inl ⟨by kernel_rfl, ?yn16k16⟩) (by assumption) ?rn16k16
      case yn16k16 => intro w hSw; (try dsimp only at hSw); go_simp; try with_reducible rfl
      try simp only [Act.put, List.setIfInBounds_toArray, List.set_cons_zero, List.set_cons_succ]
      refine wpAnyH_done (by kernel_rfl) ?_ _
      clear hHeld
      clear w1 w2 w3 w4 u1 u2 u3 u4 u5 u6 u7 u8 u9 v1 v2 V5 CH SH
      go_wp2_with fail
      go_loopw [6, 8, 36] (fun s6 _ s36 wr => ∃ i : Nat, i ≤ c + 1 ∧ s6 = .int .i64 (sumr (ch N) a i : Nat) ∧ s36 = .int .i64 i ∧ sumr (ch N) a i ≤ 4611686018427387904 ∧ wr = y7) (fun _ _ s36 _ => c + 1 - (intOf s36).toNat)
      case atStart => exact ⟨0, by omega, rfl, rfl, by rw [sumr]; omega, rfl⟩
      case round =>
        obtain ⟨i, hi, rfl, rfl, hs, rfl⟩ := hrel
        by_cases hlt : i < c + 1
        · have x1 := RR.out.cell (i := a + i) (by omega)
          have z1 : (i : Int) < ((c + 1 : Nat) : Int) := by omega
          have z2 : (0 : Int) ≤ (i : Int) := by omega
          have z3 : i < c + 1 := hlt
          have z4 : (i : Int) < (c : Int) + 1 := by omega
          have SS := Lib.hid (show sumr (ch N) a (i + 1) = sumr (ch N) a i + ch N (a + i) from rfl)
          have cl := ch_lt (n := N) (by omega) (a + i)
          have WR : IntKind.i64.wrap (((sumr (ch N) a i : Nat) : Int) + ((ch N (a + i) : Nat) : Int)) = ((sumr (ch N) a (i + 1) : Nat) : Int) := wrap63 (by rw [SS.out]; omega) (by rw [SS.out]; omega)
          have MO := Lib.hid (sumr_mono (ch N) a (show i + 1 ≤ c + 1 by omega))
          clear cl SS
          by_cases hbig : (4611686018427387904 : Int) < ((sumr (ch N) a (i + 1) : Nat) : Int)
          · have NO := Lib.hid (show ¬ (TOT ≤ 4611686018427387904) from by rw [CN.out]; have := MO.out; omega)
            generalize sumr (ch N) a (i + 1) = S1 at *
            generalize sumr (ch N) a i = S0 at *
            go_wp2_with fail
            refine bodyPost_ret (v := .tuple #[.int .i64 0, .int .i64 4]) (by simp [results, Tryd.results31, go_sem]) rfl ?_
            exact ⟨by rw [if_pos rfl, if_neg NO.out], B5.out⟩
          · have hb2 := Lib.hid (show sumr (ch N) a (i + 1) ≤ 4611686018427387904 by omega)
            clear MO
            obtain ⟨S1, hS1⟩ : ∃ S1, sumr (ch N) a (i + 1) = S1 := ⟨_, rfl⟩
            have HS1 := Lib.hid hS1
            rw [hS1] at WR hbig hb2
            clear hS1
            go_wp2_with fail
            go_roundw
            case rel => exact ⟨i + 1, by omega, by rw [HS1.out], by go_num, by rw [HS1.out]; exact hb2.out, by first | exact trivial | rfl⟩
            case measure => first | (simp [intOf]; done) | (simp [intOf]; omega)
        · obtain rfl : i = c + 1 := by omega
          have YES := Lib.hid (show TOT ≤ 4611686018427387904 from by rw [CN.out]; exact hs)
          rw [← CN.out]
          have z1 : ¬ (((c + 1 : Nat) : Int) < ((c + 1 : Nat) : Int)) := by omega
          go_wp2_with fail
          refine bodyPost_ret (v := .tuple #[.int .i64 (TOT : Nat), .int .i64 0]) (by simp [results, Tryd.results31, go_sem]) rfl ?_
          exact ⟨by rw [if_pos rfl, if_pos YES.out], B5.out⟩
end Go.Proofs.YtgjphbkaonaneaaDoor

/-
  Count: the document's.
-/
namespace Go.Proofs.YtgjphbkaonaneaaDoor
set_option linter.unusedSimpArgs false
open Go Go.RowKit Go.Shelf Go.Ev

theorem infoU : (Tryd.prog.info? 62).map (fun i => (i.zero, i.size, i.bytes)) = some (some (.int .u64 0), 1, 8) := by kernel_rfl
/-- a row half way to the next one -/
def mid (i k j : Nat) : Nat := if j < k then ch (i + 1) j else if j = k ∧ 0 < k then ch i (k - 1) else 0
theorem mid_at (i k : Nat) : mid i k k + ch i k = ch (i + 1) k := by
  unfold mid
  rw [if_neg (Nat.lt_irrefl k)]
  cases k with
  | zero => rw [if_neg (fun h => absurd h.2 (Nat.lt_irrefl 0)), ch_zero, ch_zero]
  | succ k => rw [if_pos ⟨rfl, Nat.succ_pos k⟩, Nat.add_sub_cancel, ch_succ]
theorem mid_next (i k : Nat) : mid i k (k + 1) = 0 := by
  unfold mid
  rw [if_neg (by omega), if_neg (by omega)]
theorem mid_step (i k j : Nat) : (if j = k + 1 then ch i k else if j = k then ch (i + 1) k else mid i k j) = mid i (k + 1) j := by
  unfold mid
  by_cases h1 : j = k + 1
  · rw [if_pos h1, if_neg (by omega), if_pos ⟨h1, by omega⟩, Nat.add_sub_cancel]
  · rw [if_neg h1]
    by_cases h2 : j = k
    · rw [if_pos h2, if_pos (by omega), h2]
    · rw [if_neg h2]
      by_cases h3 : j < k
      · rw [if_pos h3, if_pos (by omega)]
      · rw [if_neg h3, if_neg (by omega), if_neg (by omega), if_neg (by omega)]
theorem mid_end (i j : Nat) (h : j < i + 2) : mid i (i + 1) j = ch (i + 1) j := by
  unfold mid
  by_cases h1 : j < i + 1
  · rw [if_pos h1]
  · obtain rfl : j = i + 1 := by omega
    rw [if_neg h1, if_pos ⟨rfl, by omega⟩, Nat.add_sub_cancel, ch_self, ch_self]
theorem mid_zero (i j : Nat) : mid i 0 j = 0 := by
  unfold mid
  rw [if_neg (by omega), if_neg (by omega)]
set_option maxRecDepth 100000 in
set_option maxHeartbeats 16000000 in
theorem Count_r_any (lo hi : List Int) (mn mx : Int) (A B : Option Addr) (c1 c2 : Nat) (w : World) (ha : Ints w A lo) (hb : Ints w B hi) :
    Calls Tryd.prog 32 #[.agg #[.slice A lo.length c1, .slice B hi.length c2, .int .i64 mn, .int .i64 mx]] w (CntRes (validFB lo hi mn mx) (cntN (setN lo) (setN hi) mn mx) w) := by
  have VP := Lib.hid (fun w1 (h : Below w.heap.size w w1) => FValid_r_any lo hi mn mx A B c1 c2 w1 (ha.over h) (hb.over h))
  have VL := Lib.hid (show validFB lo hi mn mx = true → lo.all inR = true ∧ hi.all inR = true ∧ lo.length = ones (setN lo) from fun h => by
    unfold validFB at h
    simp only [Bool.and_eq_true] at h
    exact ⟨elems_all h.1.1.1, elems_all h.1.1.2, len_setN h.1.1.1⟩)
  have S1 := Lib.hid (fun (h1 : lo.all inR = true) w1 (h : Below w.heap.size w w1) => rof_any lo A c1 w1 (ha.over h) h1)
  have S2 := Lib.hid (fun (h1 : hi.all inR = true) w1 (h : Below w.heap.size w w1) => rof_any hi B c2 w1 (hb.over h) h1)
  have LT := Lib.hid (show ∀ l : List Int, l.all inR = true → setN l < 18446744073709551616 from fun l h => setN_lt h)
  have hl1 := ha.1
  have hl2 := hb.1
  clear ha hb
  generalize lo.length = n1 at *
  generalize hi.length = n2 at *
  have BA := Lib.hid (show Below w.heap.size w (w.alloc (.cells #[.slice A n1 c1, .slice B n2 c2, .int .i64 mn, .int .i64 mx] 37)) from (Below.refl _ w).alloc (Nat.le_refl _) _)
  have BX := Lib.hid (show ∀ wx : World, Below (w.heap.size + 1) (w.alloc (.cells #[.slice A n1 c1, .slice B n2 c2, .int .i64 mn, .int .i64 mx] 37)) wx → wx.cell? ⟨w.heap.size, 0, none⟩ = some (.slice A n1 c1) ∧ wx.cell? ⟨w.heap.size, 1, none⟩ = some (.slice B n2 c2) ∧ wx.cell? ⟨w.heap.size, 2, none⟩ = some (.int .i64 mn) ∧ wx.cell? ⟨w.heap.size, 3, none⟩ = some (.int .i64 mx) from fun wx h => by
    have hh := (h.block w.heap.size (by omega)).trans (heap_alloc_new w (.cells #[.slice A n1 c1, .slice B n2 c2, .int .i64 mn, .int .i64 mx] 37))
    refine ⟨?_, ?_, ?_, ?_⟩ <;> (simp only [World.cell?, hh]; rfl))
  have hz : w.heap.size + 1 ≤ (w.alloc (.cells #[.slice A n1 c1, .slice B n2 c2, .int .i64 mn, .int .i64 mx] 37)).heap.size := by simp
  cases hV : validFB lo hi mn mx with
  | false =>
    rw [hV] at VP
    clear S1 S2 VL hV LT
    go_enter Tryd.func32, Tryd.ntmps32
    go_upto_region 1 with fail
    generalize (w.alloc (.cells #[.slice A n1 c1, .slice B n2 c2, .int .i64 mn, .int .i64 mx] 37)) = W0 at *
    obtain ⟨x0, x1, x2, x3⟩ := BX.out _ (Below.refl _ W0)
    go_wp2_with ((go_at_call 34; clear x0 x1 x2 x3; refine (VP.out _ BA.out).mono ?_; rintro e y1 ⟨rfl, hb⟩; have H1 := Lib.hid (show Below (w.heap.size + 1) W0 y1 from hb.mono hz); have B1 := Lib.hid (BA.out.trans (hb.mono BA.out.size)); have hs1 : w.heap.size + 1 ≤ y1.heap.size := Nat.le_trans hz hb.size; obtain ⟨x0, x1, x2, x3⟩ := BX.out _ H1.out; clear hb VP))
    refine bodyPost_ret (v := .tuple #[.int .i64 0, .int .i64 2]) (by simp [results, Tryd.results32, go_sem]) rfl ?_
    exact ⟨by rw [if_neg Bool.false_ne_true], B1.out⟩
  | true =>
    obtain ⟨hr1, hr2, hol⟩ := VL.out hV
    rw [hV] at VP
    have S1 := Lib.hid (S1.out hr1)
    have S2 := Lib.hid (S2.out hr2)
    have HL := Lib.hid (LT.out _ hr1)
    have HH := Lib.hid (LT.out _ hr2)
    have OL := Lib.hid hol
    clear VL hV hr1 hr2 LT hol
    generalize setN lo = L at *
    generalize setN hi = H at *
    go_enter Tryd.func32, Tryd.ntmps32
    go_upto_region 1 with fail
    generalize (w.alloc (.cells #[.slice A n1 c1, .slice B n2 c2, .int .i64 mn, .int .i64 mx] 37)) = W0 at *
    obtain ⟨x0, x1, x2, x3⟩ := BX.out _ (Below.refl _ W0)
    go_wp2_with ((go_at_call 34; clear x0 x1 x2 x3; refine (VP.out _ BA.out).mono ?_; rintro e y1 ⟨rfl, hb⟩; have H1 := Lib.hid (show Below (w.heap.size + 1) W0 y1 from hb.mono hz); have B1 := Lib.hid (BA.out.trans (hb.mono BA.out.size)); have hs1 : w.heap.size + 1 ≤ y1.heap.size := Nat.le_trans hz hb.size; obtain ⟨x0, x1, x2, x3⟩ := BX.out _ H1.out; clear hb VP))
    clear x0 x1 x2 x3
    have S0 : (fun wx : World => wx.cell? ⟨w.heap.size, 0, none⟩ = some (.slice A n1 c1) ∧ wx.cell? ⟨w.heap.size, 1, none⟩ = some (.slice B n2 c2) ∧ wx.cell? ⟨w.heap.size, 2, none⟩ = some (.int .i64 mn) ∧ wx.cell? ⟨w.heap.size, 3, none⟩ = some (.int .i64 mx)) y1.drew := BX.out _ H1.out.drew
    refine wp_region_held_drew (S := fun (wx : World) => wx.cell? ⟨w.heap.size, 0, none⟩ = some (.slice A n1 c1) ∧ wx.cell? ⟨w.heap.size, 1, none⟩ = some (.slice B n2 c2) ∧ wx.cell? ⟨w.heap.size, 2, none⟩ = some (.int .i64 mn) ∧ wx.cell? ⟨w.heap.size, 3, none⟩ = some (.int .i64 mx)) (by kernel_rfl) S0 (fun hHeld => ?_)
    clear S0
    replace H1 := Lib.hid (show Below (w.heap.size + 1) W0 y1.drew from H1.out.drew)
    replace B1 := Lib.hid (show Below w.heap.size w y1.drew from B1.out.drew)
    replace hs1 : w.heap.size + 1 ≤ y1.drew.heap.size := hs1
    generalize y1.drew = V at *
    refine wpAnyH_take (i := 0) (oi := { dst := some 16, op := Op.fieldAddr 37 (Operand.tmp 1) 0, type := 0, pos := "ref.go:117", after := #[], guard := none }) (v := ?vn1k0) rfl (by kernel_rfl) (by kernel_rfl) (by kernel_rfl) (fun _ _ _ h => h) (Or.inl ⟨by kernel_rfl, ?yn1k0⟩) (by assumption) ?rn1k0
    case yn1k0 => intro w hSw; (try dsimp only at hSw); go_simp; try with_reducible rfl
    try simp only [Act.put, List.setIfInBounds_toArray, List.set_cons_zero, List.set_cons_succ]
    refine wpAnyH_take (i := 1) (oi := { dst := some 17, op := Op.load 23 (Operand.tmp 16), type := 23, pos := "ref.go:117", after := #[{ on := 0, ground := Ground.data }], guard := none }) (v := ?vn2k1) rfl (by kernel_rfl) (by kernel_rfl) (by kernel_rfl) (fun _ _ _ h => h) (Or.inl ⟨by kernel_rfl, ?yn2k1⟩) (by assumption) ?rn2k1
    case yn2k1 => intro w hSw; (try dsimp only at hSw); go_simp; try with_reducible rfl
    try simp only [Act.put, List.setIfInBounds_toArray, List.set_cons_zero, List.set_cons_succ]
    refine wpAnyH_take (i := 3) (oi := { dst := some 19, op := Op.fieldAddr 37 (Operand.tmp 1) 1, type := 0, pos := "ref.go:117", after := #[], guard := none }) (v := ?vn3k3) rfl (by kernel_rfl) (by kernel_rfl) (by kernel_rfl) (fun _ _ _ h => h) (Or.inl ⟨by kernel_rfl, ?yn3k3⟩) (by assumption) ?rn3k3
    case yn3k3 => intro w hSw; (try dsimp only at hSw); go_simp; try with_reducible rfl
    try simp only [Act.put, List.setIfInBounds_toArray, List.set_cons_zero, List.set_cons_succ]
    refine wpAnyH_take (i := 4) (oi := { dst := some 20, op := Op.load 23 (Operand.tmp 19), type := 23, pos := "ref.go:117", after := #[{ on := 3, ground := Ground.data }], guard := none }) (v := ?vn4k4) rfl (by kernel_rfl) (by kernel_rfl) (by kernel_rfl) (fun _ _ _ h => h) (Or.inl ⟨by kernel_rfl, ?yn4k4⟩) (by assumption) ?rn4k4
    case yn4k4 => intro w hSw; (try dsimp only at hSw); go_simp; try with_reducible rfl
    try simp only [Act.put, List.setIfInBounds_toArray, List.set_cons_zero, List.set_cons_succ]
    refine wpAnyH_ready (rs := [2]) (by kernel_rfl) (by simp) (AllReadyH.cons (o := { dst := some 18, op := Op.call { callee := Callee.value (Operand.func 64), args := #[Operand.tmp 17], argTypes := #[23] }, type := 86, pos := "ref.go:117", after := #[{ on := 1, ground := Ground.data }], guard := none }) rfl (fun K hK => ?_) AllReadyH.nil)
    go_simp
    refine (S1.out _ B1.out).mono ?_
    rintro e z2 ⟨rfl, rfl⟩
    clear hHeld
    refine hK.out _ _ (BX.out _ H1.out) (fun hHeld => ?_)
    clear hK K
    try simp only [Act.put, List.setIfInBounds_toArray, List.set_cons_zero, List.set_cons_succ]
    refine wpAnyH_ready (rs := [5]) (by kernel_rfl) (by simp) (AllReadyH.cons (o := { dst := some 21, op := Op.call { callee := Callee.value (Operand.func 64), args := #[Operand.tmp 20], argTypes := #[23] }, type := 86, pos := "ref.go:117", after := #[{ on := 4, ground := Ground.data }, { on := 2, ground := Ground.chain }], guard := none }) rfl (fun K hK => ?_) AllReadyH.nil)
    go_simp
    refine (S2.out _ B1.out).mono ?_
    rintro e z5 ⟨rfl, rfl⟩
    clear hHeld
    refine hK.out _ _ (BX.out _ H1.out) (fun hHeld => ?_)
    clear hK K
    try simp only [Act.put, List.setIfInBounds_toArray, List.set_cons_zero, List.set_cons_succ]
    refine wpAnyH_take (i := 6) (oi := { dst := some 4, op := Op.assign (Operand.tmp 18), type := 86, pos := "ref.go:117", after := #[{ on := 2, ground := Ground.data }, { on := 5, ground := Ground.chain }, { on := 0, ground := Ground.phase }, { on := 1, ground := Ground.phase }, { on := 2, ground := Ground.phase }, { on := 3, ground := Ground.textOnly Departure.lateStores }, { on := 4, ground := Ground.textOnly Departure.lateStores }, { on := 5, ground := Ground.textOnly Departure.lateStoresUnsure }], guard := none }) (v := ?vn5k6) rfl (by kernel_rfl) (by kernel_rfl) (by kernel_rfl) (fun _ _ _ h => h) (Or.inl ⟨by kernel_rfl, ?yn5k6⟩) (by assumption) ?rn5k6
    case yn5k6 => intro w hSw; (try dsimp only at hSw); go_simp; try with_reducible rfl
    try simp only [Act.put, List.setIfInBounds_toArray, List.set_cons_zero, List.set_cons_succ]
    refine wpAnyH_take (i := 7) (oi := { dst := some 5, op := Op.assign (Operand.tmp 21), type := 86, pos := "ref.go:117", after := #[{ on := 5, ground := Ground.data }, { on := 6, ground := Ground.chain }, { on := 0, ground := Ground.phase }, { on := 1, ground := Ground.phase }, { on := 2, ground := Ground.phase }, { on := 3, ground := Ground.phase }, { on := 4, ground := Ground.phase }, { on := 5, ground := Ground.phase }, { on := 6, ground := Ground.phase }], guard := none }) (v := ?vn6k7) rfl (by kernel_rfl) (by kernel_rfl) (by kernel_rfl) (fun _ _ _ h => h) (Or.inl ⟨by kernel_rfl, ?yn6k7⟩) (by assumption) ?rn6k7
    case yn6k7 => intro w hSw; (try dsimp only at hSw); go_simp; try with_reducible rfl
    try simp only [Act.put, List.setIfInBounds_toArray, List.set_cons_zero, List.set_cons_succ]
    refine wpAnyH_done (by kernel_rfl) ?_ _
    clear hHeld S1 S2
    have AN := Lib.hid (show (bits .andNot .u64 (L : Int) (H : Int) == 0) = decide (sub64 L H = 0) from by rw [show bits .andNot .u64 (L : Int) (H : Int) = ((sub64 L H : Nat) : Int) from andNot_u64 L H HL.out HH.out, Bool.eq_iff_iff, beq_iff_eq, decide_eq_true_eq]; omega)
    have AM := Lib.hid (show bits .andNot .u64 (H : Int) (L : Int) = ((sub64 H L : Nat) : Int) from andNot_u64 H L HH.out HL.out)
    by_cases hs : sub64 L H = 0
    · have an := AN.out
      rw [decide_eq_true hs] at an
      have an2 : (bits .andNot .u64 (L : Int) (H : Int) != 0) = false := by simpa using an
      have an3 : bits .andNot .u64 (L : Int) (H : Int) = 0 := by simpa using an
      have CN := Lib.hid (show cntN L H mn mx = sumc (ch (ones (sub64 H L))) (condB n1 mn mx) (ones (sub64 H L) + 1) from by unfold cntN; rw [if_pos hs, OL.out])
      have hN : ones (sub64 H L) ≤ 64 := ones_le64 (sub64_lt HH.out)
      have hn1 : n1 ≤ 64 := by rw [OL.out]; exact ones_le64 HL.out
      have SZ := Lib.hid (fun w1 => rsize_any (sub64 H L) w1 (sub64_lt HH.out))
      clear OL HL HH AN hs
      generalize sub64 H L = D at *
      generalize ones D = n at *
      generalize cntN L H mn mx = TOT at *
      go_upto_region 7 with (go_at_call 68; rw [AM.out]; refine (SZ.out _).mono ?_; rintro e y2 ⟨rfl, hb⟩; have H2 := Lib.hid (H1.out.trans (hb.mono hs1)); have B2 := Lib.hid (B1.out.trans (hb.mono B1.out.size)); have hs2 : w.heap.size + 1 ≤ y2.heap.size := Nat.le_trans hs1 hb.size; clear hb SZ)
      go_upto_region 8 with fail
      have RS := Lib.hid (show (y2.alloc (.cells #[.int .u64 1] 62)).rowIs y2.heap.size 62 1 (fun j => .int .u64 (ch 0 j : Nat)) from World.rowIs_alloc y2 #[.int .u64 1] 62 _ (fun i hi => by (have h0 : i = 0 := by simpa using hi); rw [h0]; rfl))
      have BS := Lib.hid (H2.out.trans (((Below.refl _ y2).alloc (Nat.le_refl _) (.cells #[.int .u64 1] 62)).mono hs2))
      have BT := Lib.hid (B2.out.trans (((Below.refl _ y2).alloc (Nat.le_refl _) (.cells #[.int .u64 1] 62)).mono B2.out.size))
      go_wp2_with fail
      have hmk : ∀ (i : Nat), i ≤ 64 → ∀ w : World, (Instr.makeSlice 96 (.int .i64 ((i : Int) + 1 + 1)) (.int .i64 ((i : Int) + 1 + 1))).run Tryd.prog w = .ok (.slice (some ⟨w.heap.size, 0, none⟩) (i + 2) (i + 2)) (w.alloc (.cells (madeCells #[.int .u64 0] (i + 2)) 62)) := fun i hi w => by
        have := run_make_row' (P := Tryd.prog) 96 62 (.int .u64 0) 8 Tryd.underlying96 infoU rfl .i64 .i64 (i + 2) (by omega) (by omega) w
        have e : ((i + 2 : Nat) : Int) = (i : Int) + 1 + 1 := by omega
        rwa [e] at this
      have HMK := Lib.hid hmk
      clear hmk
      go_loopw [7, 8, 9, 10] (fun s7 s8 _ _ wr => ∃ (i g cp : Nat), i ≤ n ∧ s7 = .slice (some ⟨g, 0, none⟩) (i + 1) cp ∧ s8 = .int .i64 i ∧ w.heap.size + 1 ≤ g ∧ wr.rowIs g 62 (i + 1) (fun j => .int .u64 (ch i j : Nat)) ∧ Below (w.heap.size + 1) W0 wr ∧ Below w.heap.size w wr) (fun _ s8 _ _ _ => n - (intOf s8).toNat)
      case atStart => exact ⟨0, y2.heap.size, 1, by omega, rfl, rfl, hs2, RS.out, BS.out, BT.out⟩
      case round =>
        obtain ⟨i, g, cp, hi, rfl, rfl, hg, hr, hb, hbw⟩ := hrel
        have GR := Lib.hid hr
        have BB := Lib.hid hb
        have BW := Lib.hid hbw
        clear hr hb hbw RS BS BT
        by_cases hlt : i < n
        · have y1 : (i : Int) < (n : Int) := by omega
          have hmk := HMK.out i (by omega)
          go_upto_region 12 with fail
          have NR := Lib.hid ((World.rowIs_made wr (.int .u64 0) (i + 2) 62).congr (g := fun j => .int .u64 (mid i 0 j : Nat)) (fun j _ => by rw [mid_zero]; rfl))
          have GL := GR.out.lt
          have hwr : w.heap.size + 1 ≤ wr.heap.size := by omega
          have hwr0 : w.heap.size ≤ wr.heap.size := by omega
          replace GR := Lib.hid (GR.out.alloc (.cells (madeCells #[.int .u64 0] (i + 2)) 62))
          replace BB := Lib.hid (BB.out.alloc hwr (.cells (madeCells #[.int .u64 0] (i + 2)) 62))
          replace BW := Lib.hid (BW.out.alloc hwr0 (.cells (madeCells #[.int .u64 0] (i + 2)) 62))
          generalize wr.alloc (.cells (madeCells #[.int .u64 0] (i + 2)) 62) = V1 at *
          obtain ⟨h, hh⟩ : ∃ h, wr.heap.size = h := ⟨_, rfl⟩
          rw [hh] at NR GL hwr hwr0 ⊢
          have hgh : g ≠ h := by omega
          have hh1 := hwr
          have hh0 := hwr0
          clear hmk hwr hwr0 GL hh
          go_wp2_with fail
          go_loopw [10] (fun s10 wq => ∃ k : Nat, k ≤ i + 1 ∧ s10 = .int .i64 k ∧ wq.rowIs h 62 (i + 2) (fun j => .int .u64 (mid i k j : Nat)) ∧ wq.rowIs g 62 (i + 1) (fun j => .int .u64 (ch i j : Nat)) ∧ Below (w.heap.size + 1) W0 wq ∧ Below w.heap.size w wq) (fun s10 _ => i + 1 - (intOf s10).toNat)
          case atStart => exact ⟨0, by omega, rfl, NR.out, GR.out, BB.out, BW.out⟩
          case round =>
            obtain ⟨k, hk, rfl, hr1, hr2, hb, hbw⟩ := hrel
            clear NR GR BB BW
            have NR := Lib.hid hr1
            have GR := Lib.hid hr2
            have BB := Lib.hid hb
            have BW := Lib.hid hbw
            clear hr1 hr2 hb hbw
            by_cases hk1 : k < i + 1
            · have x1 : (k : Int) < (i : Int) + 1 := by omega
              have x2 : (0 : Int) ≤ (k : Int) := by omega
              have x3 : k < i + 1 := hk1
              have x4 : k < i + 2 := by omega
              have x5 : (k : Int) < (i : Int) + 2 := by omega
              have x6 : (0 : Int) ≤ (k : Int) + 1 := by omega
              have x7 : k + 1 < i + 2 := by omega
              have x8 : (k : Int) + 1 < (i : Int) + 2 := by omega
              have x9 : (k : Int) < (i : Int) + 1 + 1 := by omega
              have x10 : IntKind.i64.wrap ((k : Int) + 1) = (k : Int) + 1 := by have := wrap63 (n := (k : Int) + 1) (m := k + 1) (by omega) (by omega); rw [this]; omega
              have x11 : ((k : Int) + 1).toNat = k + 1 := by omega
              have WR := Lib.hid (show IntKind.u64.wrap (((mid i k k : Nat) : Int) + ((ch i k : Nat) : Int)) = ((ch (i + 1) k : Nat) : Int) from wrap_nat (by rw [← mid_at i k]; omega) (by have := ch_lt (n := i + 1) (by omega) k; omega))
              have WS := Lib.hid (show IntKind.u64.wrap (((mid i k (k + 1) : Nat) : Int) + ((ch i k : Nat) : Int)) = ((ch i k : Nat) : Int) from wrap_nat (by rw [mid_next i k]; omega) (by have := ch_lt (n := i) (by omega) k; omega))
              go_wp2_with fail
              refine wp_region_held_drew (S := fun (wx : World) => wx.cell? ⟨g, k, none⟩ = some (.int .u64 (ch i k : Nat))) (by kernel_rfl) (GR.out.cell (i := k) (by omega)) (fun hHeld => ?_)
              replace GR := Lib.hid GR.out.drew
              replace NR := Lib.hid NR.out.drew
              replace BB := Lib.hid BB.out.drew
              replace BW := Lib.hid BW.out.drew
              generalize wr.drew = V9 at *
              refine wpAnyH_take (i := 0) (oi := { dst := some 46, op := Op.move (Operand.tmp 9), type := 96, pos := "ref.go:126", after := #[], guard := none }) (v := ?vn7k0) rfl (by kernel_rfl) (by kernel_rfl) (by kernel_rfl) (fun _ _ _ h => h) (Or.inl ⟨by kernel_rfl, ?yn7k0⟩) (by assumption) ?rn7k0
              case yn7k0 => intro w hSw; (try dsimp only at hSw); go_simp; try with_reducible rfl
              try simp only [Act.put, List.setIfInBounds_toArray, List.set_cons_zero, List.set_cons_succ]
              refine wpAnyH_take (i := 1) (oi := { dst := some 47, op := Op.move (Operand.tmp 10), type := 3, pos := "ref.go:126", after := #[], guard := none }) (v := ?vn8k1) rfl (by kernel_rfl) (by kernel_rfl) (by kernel_rfl) (fun _ _ _ h => h) (Or.inl ⟨by kernel_rfl, ?yn8k1⟩) (by assumption) ?rn8k1
              case yn8k1 => intro w hSw; (try dsimp only at hSw); go_simp; try with_reducible rfl
              try simp only [Act.put, List.setIfInBounds_toArray, List.set_cons_zero, List.set_cons_succ]
              refine wpAnyH_take (i := 2) (oi := { dst := some 48, op := Op.indexAddr 96 (Operand.tmp 46) (Operand.tmp 47), type := 0, pos := "ref.go:126", after := #[{ on := 0, ground := Ground.data }, { on := 1, ground := Ground.data }], guard := none }) (v := ?vn9k2) rfl (by kernel_rfl) (by kernel_rfl) (by kernel_rfl) (fun _ _ _ h => h) (Or.inl ⟨by kernel_rfl, ?yn9k2⟩) (by assumption) ?rn9k2
              case yn9k2 => intro w hSw; (try dsimp only at hSw); go_simp; try with_reducible rfl
              try simp only [Act.put, List.setIfInBounds_toArray, List.set_cons_zero, List.set_cons_succ]
              refine wpAnyH_take (i := 4) (oi := { dst := some 50, op := Op.move (Operand.tmp 7), type := 96, pos := "ref.go:126", after := #[], guard := none }) (v := ?vn10k4) rfl (by kernel_rfl) (by kernel_rfl) (by kernel_rfl) (fun _ _ _ h => h) (Or.inl ⟨by kernel_rfl, ?yn10k4⟩) (by assumption) ?rn10k4
              case yn10k4 => intro w hSw; (try dsimp only at hSw); go_simp; try with_reducible rfl
              try simp only [Act.put, List.setIfInBounds_toArray, List.set_cons_zero, List.set_cons_succ]
              refine wpAnyH_take (i := 5) (oi := { dst := some 51, op := Op.move (Operand.tmp 10), type := 3, pos := "ref.go:126", after := #[], guard := none }) (v := ?vn11k5) rfl (by kernel_rfl) (by kernel_rfl) (by kernel_rfl) (fun _ _ _ h => h) (Or.inl ⟨by kernel_rfl, ?yn11k5⟩) (by assumption) ?rn11k5
              case yn11k5 => intro w hSw; (try dsimp only at hSw); go_simp; try with_reducible rfl
              try simp only [Act.put, List.setIfInBounds_toArray, List.set_cons_zero, List.set_cons_succ]
              refine wpAnyH_take (i := 6) (oi := { dst := some 52, op := Op.indexAddr 96 (Operand.tmp 50) (Operand.tmp 51), type := 0, pos := "ref.go:126", after := #[{ on := 4, ground := Ground.data }, { on := 5, ground := Ground.data }], guard := none }) (v := ?vn12k6) rfl (by kernel_rfl) (by kernel_rfl) (by kernel_rfl) (fun _ _ _ h => h) (Or.inl ⟨by kernel_rfl, ?yn12k6⟩) (by assumption) ?rn12k6
              case yn12k6 => intro w hSw; (try dsimp only at hSw); go_simp; try with_reducible rfl
              try simp only [Act.put, List.setIfInBounds_toArray, List.set_cons_zero, List.set_cons_succ]
              refine wpAnyH_take (i := 7) (oi := { dst := some 53, op := Op.load 62 (Operand.tmp 52), type := 62, pos := "ref.go:126", after := #[{ on := 6, ground := Ground.data }], guard := none }) (v := ?vn13k7) rfl (by kernel_rfl) (by kernel_rfl) (by kernel_rfl) (fun _ _ _ h => h) (Or.inl ⟨by kernel_rfl, ?yn13k7⟩) (by assumption) ?rn13k7
              case yn13k7 => intro w hSw; (try dsimp only at hSw); go_simp; try with_reducible rfl
              try simp only [Act.put, List.setIfInBounds_toArray, List.set_cons_zero, List.set_cons_succ]
              refine wpAnyH_ready (rs := [3]) (by kernel_rfl) (by simp) (AllReadyH.cons (o := { dst := some 49, op := Op.load 62 (Operand.tmp 48), type := 62, pos := "ref.go:126", after := #[{ on := 2, ground := Ground.data }], guard := none }) rfl (fun K hK => ?_) AllReadyH.nil)
              have e0 := NR.out.cell (i := k) (by omega)
              go_simp
              clear e0
              refine hK.out _ _ hHeld (fun hHeld => ?_)
              clear hK K
              try simp only [Act.put, List.setIfInBounds_toArray, List.set_cons_zero, List.set_cons_succ]
              refine wpAnyH_take (i := 8) (oi := { dst := some 54, op := Op.binOp BinOp.add 62 (Operand.tmp 49) (Operand.tmp 53) 62, type := 62, pos := "ref.go:126", after := #[{ on := 3, ground := Ground.data }, { on := 7, ground := Ground.data }], guard := none }) (v := ?vn14k8) rfl (by kernel_rfl) (by kernel_rfl) (by kernel_rfl) (fun _ _ _ h => h) (Or.inl ⟨by kernel_rfl, ?yn14k8⟩) (by assumption) ?rn14k8
              case yn14k8 => intro w hSw; (try dsimp only at hSw); go_simp; try with_reducible rfl
              try simp only [Act.put, List.setIfInBounds_toArray, List.set_cons_zero, List.set_cons_succ]
              refine wpAnyH_take (i := 9) (oi := { dst := some 55, op := Op.indexAddr 96 (Operand.tmp 46) (Operand.tmp 47), type := 0, pos := "ref.go:126", after := #[{ on := 0, ground := Ground.data }, { on := 1, ground := Ground.data }, { on := 0, ground := Ground.phase }, { on := 1, ground := Ground.phase }, { on := 2, ground := Ground.phase }, { on := 3, ground := Ground.phase }, { on := 4, ground := Ground.phase }, { on := 5, ground := Ground.phase }, { on := 6, ground := Ground.phase }, { on := 7, ground := Ground.phase }, { on := 8, ground := Ground.phase }], guard := none }) (v := ?vn15k9) rfl (by kernel_rfl) (by kernel_rfl) (by kernel_rfl) (fun _ _ _ h => h) (Or.inl ⟨by kernel_rfl, ?yn15k9⟩) (by assumption) ?rn15k9
              case yn15k9 => intro w hSw; (try dsimp only at hSw); go_simp; try with_reducible rfl
              try simp only [Act.put, List.setIfInBounds_toArray, List.set_cons_zero, List.set_cons_succ]
              refine wpAnyH_ready (rs := [10]) (by kernel_rfl) (by simp) (AllReadyH.cons (o := { dst := none, op := Op.store 62 (Operand.tmp 55) (Operand.tmp 54), type := 0, pos := "ref.go:126", after := #[{ on := 9, ground := Ground.data }, { on := 8, ground := Ground.data }, { on := 0, ground := Ground.phase }, { on := 1, ground := Ground.phase }, { on := 2, ground := Ground.phase }, { on := 3, ground := Ground.phase }, { on := 4, ground := Ground.phase }, { on := 5, ground := Ground.phase }, { on := 6, ground := Ground.phase }, { on := 7, ground := Ground.phase }, { on := 8, ground := Ground.phase }], guard := none }) rfl (fun K hK => ?_) AllReadyH.nil)
              have e0 := NR.out.cell (i := k) (by omega)
              have f0 := NR.out.frozen (k)
              go_simp
              clear e0 f0
              rw [WR.out]
              have GR2 := Lib.hid (GR.out.setOther (a := ⟨h, k, none⟩) hgh (.int .u64 (ch (i + 1) k : Nat)))
              replace NR := Lib.hid (NR.out.set (k) (.int .u64 (ch (i + 1) k : Nat)))
              replace BB := Lib.hid (BB.out.setCell (p := ⟨h, k, none⟩) hh1 (.int .u64 (ch (i + 1) k : Nat)))
              replace BW := Lib.hid (BW.out.setCell (p := ⟨h, k, none⟩) hh0 (.int .u64 (ch (i + 1) k : Nat)))
              clear GR
              have GR := GR2
              clear GR2
              generalize V9.setCell ⟨h, k, none⟩ (.int .u64 (ch (i + 1) k : Nat)) = V8 at *
              refine hK.out _ _ (GR.out.cell (i := k) (by omega)) (fun _ => ?_)
              clear hK K hHeld
              refine wpAnyH_done (by kernel_rfl) ?_ _
              go_wp2_with fail
              replace NR := Lib.hid (NR.out.congr (g := fun j => if j = k then .int .u64 (ch (i + 1) k : Nat) else .int .u64 (mid i k j : Nat)) (fun j _ => rfl))
              refine wp_region_held_drew (S := fun (wx : World) => wx.cell? ⟨g, k, none⟩ = some (.int .u64 (ch i k : Nat))) (by kernel_rfl) (GR.out.cell (i := k) (by omega)) (fun hHeld => ?_)
              replace GR := Lib.hid GR.out.drew
              replace NR := Lib.hid NR.out.drew
              replace BB := Lib.hid BB.out.drew
              replace BW := Lib.hid BW.out.drew
              generalize V8.drew = V9 at *
              refine wpAnyH_take (i := 0) (oi := { dst := some 56, op := Op.move (Operand.tmp 9), type := 96, pos := "ref.go:127", after := #[], guard := none }) (v := ?vn16k0) rfl (by kernel_rfl) (by kernel_rfl) (by kernel_rfl) (fun _ _ _ h => h) (Or.inl ⟨by kernel_rfl, ?yn16k0⟩) (by assumption) ?rn16k0
              case yn16k0 => intro w hSw; (try dsimp only at hSw); go_simp; try with_reducible rfl
              try simp only [Act.put, List.setIfInBounds_toArray, List.set_cons_zero, List.set_cons_succ]
              refine wpAnyH_take (i := 1) (oi := { dst := some 57, op := Op.move (Operand.tmp 10), type := 3, pos := "ref.go:127", after := #[], guard := none }) (v := ?vn17k1) rfl (by kernel_rfl) (by kernel_rfl) (by kernel_rfl) (fun _ _ _ h => h) (Or.inl ⟨by kernel_rfl, ?yn17k1⟩) (by assumption) ?rn17k1
              case yn17k1 => intro w hSw; (try dsimp only at hSw); go_simp; try with_reducible rfl
              try simp only [Act.put, List.setIfInBounds_toArray, List.set_cons_zero, List.set_cons_succ]
              refine wpAnyH_take (i := 2) (oi := { dst := some 58, op := Op.binOp BinOp.add 3 (Operand.tmp 57) (Operand.const (Value.int IntKind.i64 1)) 3, type := 3, pos := "ref.go:127", after := #[{ on := 1, ground := Ground.data }], guard := none }) (v := ?vn18k2) rfl (by kernel_rfl) (by kernel_rfl) (by kernel_rfl) (fun _ _ _ h => h) (Or.inl ⟨by kernel_rfl, ?yn18k2⟩) (by assumption) ?rn18k2
              case yn18k2 => intro w hSw; (try dsimp only at hSw); go_simp; try with_reducible rfl
              try simp only [Act.put, List.setIfInBounds_toArray, List.set_cons_zero, List.set_cons_succ]
              refine wpAnyH_take (i := 3) (oi := { dst := some 59, op := Op.indexAddr 96 (Operand.tmp 56) (Operand.tmp 58), type := 0, pos := "ref.go:127", after := #[{ on := 0, ground := Ground.data }, { on := 2, ground := Ground.data }], guard := none }) (v := ?vn19k3) rfl (by kernel_rfl) (by kernel_rfl) (by kernel_rfl) (fun _ _ _ h => h) (Or.inl ⟨by kernel_rfl, ?yn19k3⟩) (by assumption) ?rn19k3
              case yn19k3 => intro w hSw; (try dsimp only at hSw); go_simp; try with_reducible rfl
              try simp only [Act.put, List.setIfInBounds_toArray, List.set_cons_zero, List.set_cons_succ]
              refine wpAnyH_take (i := 5) (oi := { dst := some 61, op := Op.move (Operand.tmp 7), type := 96, pos := "ref.go:127", after := #[], guard := none }) (v := ?vn20k5) rfl (by kernel_rfl) (by kernel_rfl) (by kernel_rfl) (fun _ _ _ h => h) (Or.inl ⟨by kernel_rfl, ?yn20k5⟩) (by assumption) ?rn20k5
              case yn20k5 => intro w hSw; (try dsimp only at hSw); go_simp; try with_reducible rfl
              try simp only [Act.put, List.setIfInBounds_toArray, List.set_cons_zero, List.set_cons_succ]
              refine wpAnyH_take (i := 6) (oi := { dst := some 62, op := Op.move (Operand.tmp 10), type := 3, pos := "ref.go:127", after := #[], guard := none }) (v := ?vn21k6) rfl (by kernel_rfl) (by kernel_rfl) (by kernel_rfl) (fun _ _ _ h => h) (Or.inl ⟨by kernel_rfl, ?yn21k6⟩) (by assumption) ?rn21k6
              case yn21k6 => intro w hSw; (try dsimp only at hSw); go_simp; try with_reducible rfl
              try simp only [Act.put, List.setIfInBounds_toArray, List.set_cons_zero, List.set_cons_succ]
              refine wpAnyH_take (i := 7) (oi := { dst := some 63, op := Op.indexAddr 96 (Operand.tmp 61) (Operand.tmp 62), type := 0, pos := "ref.go:127", after := #[{ on := 5, ground := Ground.data }, { on := 6, ground := Ground.data }], guard := none }) (v := ?vn22k7) rfl (by kernel_rfl) (by kernel_rfl) (by kernel_rfl) (fun _ _ _ h => h) (Or.inl ⟨by kernel_rfl, ?yn22k7⟩) (by assumption) ?rn22k7
              case yn22k7 => intro w hSw; (try dsimp only at hSw); go_simp; try with_reducible rfl
              try simp only [Act.put, List.setIfInBounds_toArray, List.set_cons_zero, List.set_cons_succ]
              refine wpAnyH_take (i := 8) (oi := { dst := some 64, op := Op.load 62 (Operand.tmp 63), type := 62, pos := "ref.go:127", after := #[{ on := 7, ground := Ground.data }], guard := none }) (v := ?vn23k8) rfl (by kernel_rfl) (by kernel_rfl) (by kernel_rfl) (fun _ _ _ h => h) (Or.inl ⟨by kernel_rfl, ?yn23k8⟩) (by assumption) ?rn23k8
              case yn23k8 => intro w hSw; (try dsimp only at hSw); go_simp; try with_reducible rfl
              try simp only [Act.put, List.setIfInBounds_toArray, List.set_cons_zero, List.set_cons_succ]
              refine wpAnyH_ready (rs := [4]) (by kernel_rfl) (by simp) (AllReadyH.cons (o := { dst := some 60, op := Op.load 62 (Operand.tmp 59), type := 62, pos := "ref.go:127", after := #[{ on := 3, ground := Ground.data }], guard := none }) rfl (fun K hK => ?_) AllReadyH.nil)
              have e0 := NR.out.cell (i := k + 1) (by omega)
              rw [if_neg (by omega)] at e0
              go_simp
              clear e0
              refine hK.out _ _ hHeld (fun hHeld => ?_)
              clear hK K
              try simp only [Act.put, List.setIfInBounds_toArray, List.set_cons_zero, List.set_cons_succ]
              refine wpAnyH_take (i := 9) (oi := { dst := some 65, op := Op.binOp BinOp.add 62 (Operand.tmp 60) (Operand.tmp 64) 62, type := 62, pos := "ref.go:127", after := #[{ on := 4, ground := Ground.data }, { on := 8, ground := Ground.data }], guard := none }) (v := ?vn24k9) rfl (by kernel_rfl) (by kernel_rfl) (by kernel_rfl) (fun _ _ _ h => h) (Or.inl ⟨by kernel_rfl, ?yn24k9⟩) (by assumption) ?rn24k9
              case yn24k9 => intro w hSw; (try dsimp only at hSw); go_simp; try with_reducible rfl
              try simp only [Act.put, List.setIfInBounds_toArray, List.set_cons_zero, List.set_cons_succ]
              refine wpAnyH_take (i := 10) (oi := { dst := some 66, op := Op.indexAddr 96 (Operand.tmp 56) (Operand.tmp 58), type := 0, pos := "ref.go:127", after := #[{ on := 0, ground := Ground.data }, { on := 2, ground := Ground.data }, { on := 0, ground := Ground.phase }, { on := 1, ground := Ground.phase }, { on := 2, ground := Ground.phase }, { on := 3, ground := Ground.phase }, { on := 4, ground := Ground.phase }, { on := 5, ground := Ground.phase }, { on := 6, ground := Ground.phase }, { on := 7, ground := Ground.phase }, { on := 8, ground := Ground.phase }, { on := 9, ground := Ground.phase }], guard := none }) (v := ?vn25k10) rfl (by kernel_rfl) (by kernel_rfl) (by kernel_rfl) (fun _ _ _ h => h) (Or.inl ⟨by kernel_rfl, ?yn25k10⟩) (by assumption) ?rn25k10
              case yn25k10 => intro w hSw; (try dsimp only at hSw); go_simp; try with_reducible rfl
              try simp only [Act.put, List.setIfInBounds_toArray, List.set_cons_zero, List.set_cons_succ]
              refine wpAnyH_ready (rs := [11]) (by kernel_rfl) (by simp) (AllReadyH.cons (o := { dst := none, op := Op.store 62 (Operand.tmp 66) (Operand.tmp 65), type := 0, pos := "ref.go:127", after := #[{ on := 10, ground := Ground.data }, { on := 9, ground := Ground.data }, { on := 0, ground := Ground.phase }, { on := 1, ground := Ground.phase }, { on := 2, ground := Ground.phase }, { on := 3, ground := Ground.phase }, { on := 4, ground := Ground.phase }, { on := 5, ground := Ground.phase }, { on := 6, ground := Ground.phase }, { on := 7, ground := Ground.phase }, { on := 8, ground := Ground.phase }, { on := 9, ground := Ground.phase }], guard := none }) rfl (fun K hK => ?_) AllReadyH.nil)
              have e0 := NR.out.cell (i := k + 1) (by omega)
              rw [if_neg (by omega)] at e0
              have f0 := NR.out.frozen (k + 1)
              go_simp
              clear e0 f0
              rw [WS.out]
              have GR2 := Lib.hid (GR.out.setOther (a := ⟨h, k + 1, none⟩) hgh (.int .u64 (ch i k : Nat)))
              replace NR := Lib.hid (NR.out.set (k + 1) (.int .u64 (ch i k : Nat)))
              replace BB := Lib.hid (BB.out.setCell (p := ⟨h, k + 1, none⟩) hh1 (.int .u64 (ch i k : Nat)))
              replace BW := Lib.hid (BW.out.setCell (p := ⟨h, k + 1, none⟩) hh0 (.int .u64 (ch i k : Nat)))
              clear GR
              have GR := GR2
              clear GR2
              generalize V9.setCell ⟨h, k + 1, none⟩ (.int .u64 (ch i k : Nat)) = V7 at *
              refine hK.out _ _ (GR.out.cell (i := k) (by omega)) (fun _ => ?_)
              clear hK K hHeld
              refine wpAnyH_done (by kernel_rfl) ?_ _
              go_wp2_with fail
              go_roundw
              case rel => exact ⟨k + 1, by omega, by go_num, NR.out.congr fun j _ => (by rw [← mid_step i k j]; by_cases h1 : j = k + 1; (rw [if_pos h1, if_pos h1]); (rw [if_neg h1, if_neg h1]; by_cases h2 : j = k; (rw [if_pos h2, if_pos h2]); (rw [if_neg h2, if_neg h2]))), GR.out, BB.out, BW.out⟩
              case measure => first | (simp [intOf]; done) | (simp [intOf]; omega)
            · obtain rfl : k = i + 1 := by omega
              have x1 : ¬ (((i + 1 : Nat) : Int) < (i : Int) + 1) := by omega
              go_wp2_with fail
              go_roundw
              case rel => exact ⟨i + 1, h, i + 2, by omega, rfl, by go_num, by omega, NR.out.congr fun j hj => (by rw [mid_end i j hj]), BB.out, BW.out⟩
              case measure => first | (simp [intOf]; done) | (simp [intOf]; omega)
        · obtain rfl : i = n := by omega
          have y1 : ¬ ((i : Int) < (i : Int)) := by omega
          clear HMK hlt hi
          go_wp2_with fail
          obtain ⟨P, hP⟩ : ∃ P, condB n1 mn mx = P := ⟨_, rfl⟩
          have HP := Lib.hid hP
          rw [hP] at CN
          clear hP
          go_loopw [11, 12] (fun s11 s12 wq => ∃ k : Nat, k ≤ i + 1 ∧ s12 = .int .i64 k ∧ s11 = .int .u64 (sumc (ch i) P k : Nat) ∧ sumc (ch i) P k ≤ 4611686018427387904 ∧ wq = wr) (fun _ s12 _ => i + 1 - (intOf s12).toNat)
          case atStart => exact ⟨0, by omega, rfl, rfl, by rw [sumc]; omega, rfl⟩
          case round =>
            obtain ⟨k, hk, rfl, rfl, hs, rfl⟩ := hrel
            by_cases hlt : k < i + 1
            · have z1 : (k : Int) ≤ (i : Int) := by omega
              have z2 : (0 : Int) ≤ (k : Int) := by omega
              have z3 : k < i + 1 := hlt
              have z4 : (k : Int) < (i : Int) + 1 := by omega
              have z5 : k ≤ i := by omega
              have w1 : IntKind.i64.wrap ((k : Int) + (n1 : Int)) = (k : Int) + (n1 : Int) := by have := wrap63 (n := (k : Int) + (n1 : Int)) (m := k + n1) (by omega) (by omega); rw [this]; omega
              obtain ⟨x0, x1, x2, x3⟩ := BX.out _ BB.out
              have xc := GR.out.cell (i := k) (by omega)
              have cl := Lib.hid (ch_lt (n := i) (by omega) k)
              have SS := Lib.hid (show sumc (ch i) P (k + 1) = sumc (ch i) P k + (if P k = true then ch i k else 0) from rfl)
              have MO := Lib.hid (sumc_mono (ch i) P (show k + 1 ≤ i + 1 by omega))
              have HS := Lib.hid hs
              clear hs
              have PK := Lib.hid (show P k = (decide (mn ≤ (k : Int) + n1) && decide ((k : Int) + n1 ≤ mx)) from by rw [← HP.out]; rfl)
              by_cases p1 : mn ≤ (k : Int) + n1
              · by_cases p2 : (k : Int) + n1 ≤ mx
                · replace SS := Lib.hid (show sumc (ch i) P (k + 1) = sumc (ch i) P k + ch i k from by rw [SS.out, if_pos (by rw [PK.out, decide_eq_true p1, decide_eq_true p2]; rfl)])
                  have WR : IntKind.u64.wrap (((sumc (ch i) P k : Nat) : Int) + ((ch i k : Nat) : Int)) = ((sumc (ch i) P (k + 1) : Nat) : Int) := wrap_nat (by rw [SS.out]; omega) (by have h1 := HS.out; have h2 := cl.out; rw [SS.out]; omega)
                  clear SS cl PK
                  by_cases hbig : (4611686018427387904 : Int) < ((sumc (ch i) P (k + 1) : Nat) : Int)
                  · have NO := Lib.hid (show ¬ (TOT ≤ 4611686018427387904) from by rw [CN.out]; have := MO.out; omega)
                    obtain ⟨T1, hT1⟩ : ∃ T1, sumc (ch i) P (k + 1) = T1 := ⟨_, rfl⟩
                    rw [hT1] at WR hbig
                    clear hT1 MO
                    go_wp2_with fail
                    refine bodyPost_ret (v := .tuple #[.int .i64 0, .int .i64 4]) (by simp [results, Tryd.results32, go_sem]) rfl ?_
                    exact ⟨by rw [if_pos rfl, if_neg NO.out], BW.out⟩
                  · have hb2 := Lib.hid (show sumc (ch i) P (k + 1) ≤ 4611686018427387904 by omega)
                    obtain ⟨T1, hT1⟩ : ∃ T1, sumc (ch i) P (k + 1) = T1 := ⟨_, rfl⟩
                    have HT1 := Lib.hid hT1
                    rw [hT1] at WR hbig hb2
                    clear hT1 MO
                    go_wp2_with fail
                    go_roundw
                    case rel => exact ⟨k + 1, by omega, by go_num, by rw [HT1.out], by rw [HT1.out]; exact hb2.out, by first | exact trivial | rfl⟩
                    case measure => first | (simp [intOf]; done) | (simp [intOf]; omega)
                · replace SS := Lib.hid (show sumc (ch i) P (k + 1) = sumc (ch i) P k from by rw [SS.out, if_neg (by rw [PK.out, decide_eq_false p2, Bool.and_false]; decide), Nat.add_zero])
                  have hbig : ¬ ((4611686018427387904 : Int) < ((sumc (ch i) P k : Nat) : Int)) := by have := HS.out; omega
                  clear cl PK MO
                  go_wp2_with fail
                  go_roundw
                  case rel => exact ⟨k + 1, by omega, by go_num, by rw [SS.out], by rw [SS.out]; exact HS.out, by first | exact trivial | rfl⟩
                  case measure => first | (simp [intOf]; done) | (simp [intOf]; omega)
              · replace SS := Lib.hid (show sumc (ch i) P (k + 1) = sumc (ch i) P k from by rw [SS.out, if_neg (by rw [PK.out, decide_eq_false p1, Bool.false_and]; decide), Nat.add_zero])
                have hbig : ¬ ((4611686018427387904 : Int) < ((sumc (ch i) P k : Nat) : Int)) := by have := HS.out; omega
                clear cl PK MO
                go_wp2_with fail
                go_roundw
                case rel => exact ⟨k + 1, by omega, by go_num, by rw [SS.out], by rw [SS.out]; exact HS.out, by first | exact trivial | rfl⟩
                case measure => first | (simp [intOf]; done) | (simp [intOf]; omega)
            · obtain rfl : k = i + 1 := by omega
              have YES := Lib.hid (show TOT ≤ 4611686018427387904 from by rw [CN.out]; exact hs)
              rw [← CN.out]
              have z1 : ¬ (((i + 1 : Nat) : Int) ≤ (i : Int)) := by omega
              have w1 : IntKind.i64.wrap (TOT : Int) = (TOT : Int) := wrap63 rfl (by have := YES.out; omega)
              go_wp2_with fail
              refine bodyPost_ret (v := .tuple #[.int .i64 (TOT : Nat), .int .i64 0]) (by simp [results, Tryd.results32, go_sem]) rfl ?_
              exact ⟨by rw [if_pos rfl, if_pos YES.out], BW.out⟩
    · have an := AN.out
      rw [decide_eq_false hs] at an
      have an2 : (bits .andNot .u64 (L : Int) (H : Int) != 0) = true := by simpa using an
      have an3 : ¬ (bits .andNot .u64 (L : Int) (H : Int) = 0) := by simpa using an
      have CN := Lib.hid (show cntN L H mn mx = 0 from by unfold cntN; rw [if_neg hs])
      go_wp2_with fail
      refine bodyPost_ret (v := .tuple #[.int .i64 0, .int .i64 0]) (by simp [results, Tryd.results32, go_sem]) rfl ?_
      exact ⟨by rw [if_pos rfl, CN.out, if_pos (by decide)]; rfl, B1.out⟩
end Go.Proofs.YtgjphbkaonaneaaDoor

/-
  What the law FamilyTells needs besides: lists handed out, Has of a normal form and of a meet, Count's two answers.
-/
namespace Go.Proofs.YtgjphbkaonaneaaDoor
open Go Go.RowKit Go.Ev

theorem bi_length (x : Nat) : (bitsOf 64 0 x).length = (bi x).length := by unfold bi; rw [List.length_map]
theorem natCells_bi (x : Nat) : natCells (bitsOf 64 0 x) = (bi x).map (Value.int .i64) := by
  unfold natCells bi
  rw [List.map_map]
  rfl
/-- a list that is handed out can be read -/
theorem bitrow_ints {W : World} {base x : Nat} {v : Value} (hx : x < 18446744073709551616) (h : BitRow W base v x) : ∃ G cap, v = .slice G (bi x).length cap ∧ Ints W G (bi x) := by
  obtain ⟨⟨G, cap, rfl⟩, ho⟩ := h
  rw [natCells_bi] at ho
  rw [bi_length] at ho ⊢
  refine ⟨G, cap, rfl, ?_⟩
  have hr := bi_all hx
  rw [List.all_eq_true] at hr
  exact ints_of_rowAt (base := base) (by rw [bi_len hx]; have := ones_le64 hx; omega) (fun y hy => by
    have := hr y hy
    simp only [inR, Bool.and_eq_true, decide_eq_true_eq] at this
    omega) (fun hp => rowAt_of_owns ho hp)
theorem famOut_ints {W : World} {base lo hi : Nat} {mn mx : Int} {v : Value} (h1 : lo < 18446744073709551616) (h2 : hi < 18446744073709551616) (h : FamOut W base lo hi mn mx v) :
    ∃ G1 k1 G2 k2, v = .agg #[.slice G1 (bi lo).length k1, .slice G2 (bi hi).length k2, .int .i64 mn, .int .i64 mx] ∧ Ints W G1 (bi lo) ∧ Ints W G2 (bi hi) := by
  obtain ⟨v1, v2, rfl, r1, r2, _⟩ := h
  obtain ⟨G1, k1, rfl, i1⟩ := bitrow_ints h1 r1
  obtain ⟨G2, k2, rfl, i2⟩ := bitrow_ints h2 r2
  exact ⟨G1, k1, G2, k2, rfl, i1, i2⟩
theorem hasFB_eq (lo hi : List Int) (mn mx : Int) (s : List Int) : hasFB lo hi mn mx s = (validFB lo hi mn mx && (elemsB s && hasN (setN lo) (setN hi) (setN s) mn mx s.length)) := rfl
theorem valid_parts {lo hi : List Int} {mn mx : Int} (h : validFB lo hi mn mx = true) : elemsB lo = true ∧ elemsB hi = true ∧ inS mn = true ∧ inS mx = true := by
  unfold validFB at h
  simp only [Bool.and_eq_true] at h
  exact ⟨h.1.1.1, h.1.1.2, h.1.2, h.2⟩
theorem has_norm_eq {lo hi : List Int} {mn mx : Int} (s : List Int) (hv : validFB lo hi mn mx = true) (hk : okN (setN lo) (setN hi) mn mx = true) :
    hasFB (bi (nlo (setN lo) (setN hi) mn)) (bi (nhi (setN lo) (setN hi) mn mx)) (nmn (setN lo) mn) (nmx (setN hi) mx) s = hasFB lo hi mn mx s := by
  obtain ⟨v1, v2, v3, v4⟩ := valid_parts hv
  have hL := setN_lt (elems_all v1)
  have hH := setN_lt (elems_all v2)
  rw [hasFB_eq, hasFB_eq, normal_valid hL hH v3 hk, hv, setN_bi (nlo_lt hL hH), setN_bi (nhi_lt hL hH)]
  cases he : elemsB s with
  | false => rfl
  | true =>
    rw [len_setN he, has_normal hL hH (setN_lt (elems_all he)) hk]
theorem has_fail_eq {lo hi : List Int} {mn mx : Int} (s : List Int) (hv : validFB lo hi mn mx = true) (hk : okN (setN lo) (setN hi) mn mx = false) : hasFB lo hi mn mx s = false := by
  obtain ⟨v1, v2, v3, v4⟩ := valid_parts hv
  have hL := setN_lt (elems_all v1)
  have hH := setN_lt (elems_all v2)
  rw [hasFB_eq]
  cases he : elemsB s with
  | false => rw [Bool.false_and, Bool.and_false]
  | true => rw [len_setN he, has_fail hL hH (setN_lt (elems_all he)) hk, Bool.and_false, Bool.and_false]
theorem has_meet_eq {lo hi lo' hi' : List Int} {mn mx mn' mx' : Int} (s : List Int) (hv : validFB lo hi mn mx = true) (hv' : validFB lo' hi' mn' mx' = true)
    {L H : Nat} {m x : Int} (eL : L = (setN lo ||| setN lo')) (eH : H = (setN hi &&& setN hi')) (em : m = max mn mn') (ex : x = min mx mx') (hk : okN L H m x = true) :
    hasFB (bi (nlo L H m)) (bi (nhi L H m x)) (nmn L m) (nmx H x) s = (hasFB lo hi mn mx s && hasFB lo' hi' mn' mx' s) := by
  obtain ⟨v1, v2, v3, v4⟩ := valid_parts hv
  obtain ⟨u1, u2, u3, u4⟩ := valid_parts hv'
  have a1 := setN_lt (elems_all v1)
  have b1 := setN_lt (elems_all v2)
  have a2 := setN_lt (elems_all u1)
  have b2 := setN_lt (elems_all u2)
  have hL : L < 18446744073709551616 := by rw [eL]; exact or_lt a1 a2
  have hH : H < 18446744073709551616 := by rw [eH]; exact Nat.lt_of_le_of_lt Nat.and_le_left b1
  have hm : inS m = true := by
    rw [em]
    simp only [inS, Bool.and_eq_true, decide_eq_true_eq] at v3 u3 ⊢
    omega
  rw [hasFB_eq, hasFB_eq, hasFB_eq, normal_valid hL hH hm hk, hv, hv', setN_bi (nlo_lt hL hH), setN_bi (nhi_lt hL hH)]
  cases he : elemsB s with
  | false => rfl
  | true =>
    rw [len_setN he, has_normal hL hH (setN_lt (elems_all he)) hk, eL, eH, em, ex, meet_has a1 a2 b1 b2 (setN_lt (elems_all he))]
    rfl
theorem meet_valid {lo hi lo' hi' : List Int} {mn mx mn' mx' : Int} (hv : validFB lo hi mn mx = true) (hv' : validFB lo' hi' mn' mx' = true)
    {L H : Nat} {m x : Int} (eL : L = (setN lo ||| setN lo')) (eH : H = (setN hi &&& setN hi')) (em : m = max mn mn') (hk : okN L H m x = true) :
    L < 18446744073709551616 ∧ H < 18446744073709551616 ∧ validFB (bi (nlo L H m)) (bi (nhi L H m x)) (nmn L m) (nmx H x) = true := by
  obtain ⟨v1, v2, v3, v4⟩ := valid_parts hv
  obtain ⟨u1, u2, u3, u4⟩ := valid_parts hv'
  have hL : L < 18446744073709551616 := by rw [eL]; exact or_lt (setN_lt (elems_all v1)) (setN_lt (elems_all u1))
  have hH : H < 18446744073709551616 := by rw [eH]; exact Nat.lt_of_le_of_lt Nat.and_le_left (setN_lt (elems_all v2))
  refine ⟨hL, hH, normal_valid hL hH ?_ hk⟩
  rw [em]
  simp only [inS, Bool.and_eq_true, decide_eq_true_eq] at v3 u3 ⊢
  omega
/-- Count's two answers -/
def cnO (v : Bool) (n : Nat) : Int := if v = true then (if n ≤ 4611686018427387904 then (n : Int) else 0) else 0
def ceO (v : Bool) (n : Nat) : Int := if v = true then (if n ≤ 4611686018427387904 then 0 else 4) else 2
theorem CntRes.two {v : Bool} {n : Nat} {w w' : World} {e : Ending} (h : CntRes v n w e w') : e = .returned (.tuple #[.int .i64 (cnO v n), .int .i64 (ceO v n)]) ∧ Below w.heap.size w w' := by
  refine ⟨?_, h.2⟩
  rw [h.1]
  unfold cnO ceO
  cases v with
  | false => rfl
  | true =>
    rw [if_pos rfl, if_pos rfl, if_pos rfl]
    by_cases hn : n ≤ 4611686018427387904
    · rw [if_pos hn, if_pos hn, if_pos hn]
    · rw [if_neg hn, if_neg hn, if_neg hn]
theorem cnO_fail {L H : Nat} {mn mx : Int} (hL : L < 18446744073709551616) (hH : H < 18446744073709551616) (hk : okN L H mn mx = false) : cnO true (cntN L H mn mx) = 0 := by
  rw [cnt_fail hL hH hk]
  rfl
/-- what Normal and Meet answer, read -/
theorem MeetRes.bad {L H : Nat} {mn mx : Int} {w w' : World} {e : Ending} (h : MeetRes false L H mn mx w e w') : e = .returned (.tuple #[.agg #[.slice none 0 0, .slice none 0 0, .int .i64 0, .int .i64 0], .int .i64 2]) ∧ Below w.heap.size w w' := by
  unfold MeetRes at h
  rwa [if_neg Bool.false_ne_true] at h
theorem MeetRes.fail {L H : Nat} {mn mx : Int} {w w' : World} {e : Ending} (h : MeetRes true L H mn mx w e w') (hk : okN L H mn mx = false) : e = .returned (.tuple #[.agg #[.slice none 0 0, .slice none 0 0, .int .i64 0, .int .i64 0], .int .i64 60]) ∧ Below w.heap.size w w' := by
  unfold MeetRes NormRes at h
  rwa [if_pos rfl, hk, if_neg Bool.false_ne_true] at h
theorem MeetRes.good {L H : Nat} {mn mx : Int} {w w' : World} {e : Ending} (hL : L < 18446744073709551616) (hH : H < 18446744073709551616) (h : MeetRes true L H mn mx w e w') (hk : okN L H mn mx = true) :
    (∃ G1 k1 G2 k2, e = .returned (.tuple #[.agg #[.slice G1 (bi (nlo L H mn)).length k1, .slice G2 (bi (nhi L H mn mx)).length k2, .int .i64 (nmn L mn), .int .i64 (nmx H mx)], .int .i64 0]) ∧ Ints w' G1 (bi (nlo L H mn)) ∧ Ints w' G2 (bi (nhi L H mn mx))) ∧ Below w.heap.size w w' := by
  unfold MeetRes NormRes at h
  rw [if_pos rfl, if_pos hk] at h
  obtain ⟨⟨v, rfl, fo⟩, hb⟩ := h
  obtain ⟨G1, k1, G2, k2, rfl, i1, i2⟩ := famOut_ints (nlo_lt hL hH) (nhi_lt hL hH) fo
  exact ⟨⟨G1, k1, G2, k2, rfl, i1, i2⟩, hb⟩
/-- the program's Normal, in the words of MeetRes -/
theorem Normal_p_res (lo hi : List Int) (mn mx : Int) (A B : Option Addr) (c1 c2 : Nat) (w : World) (ha : Ints w A lo) (hb : Ints w B hi) (hT : TabIn w) :
    Calls Tryd.prog 27 #[.agg #[.slice A lo.length c1, .slice B hi.length c2, .int .i64 mn, .int .i64 mx]] w (MeetRes (validFB lo hi mn mx) (setN lo) (setN hi) mn mx w) := Normal_p_any lo hi mn mx A B c1 c2 w ha hb hT
end Go.Proofs.YtgjphbkaonaneaaDoor
