/-
  FamilyTexts: the body.
-/
import Derived.Test.YtcbjkclajkjicaaGreatDoorFhAw
import Derived.Test.YtcbjkclajkjicaaGreatDoorTxU
namespace Go.Proofs.YtcbjkclajkjicaaGreatDoor
set_option linter.unusedSimpArgs false
set_option linter.unusedVariables false
open Go Go.RowKit Go.Lib Go.Ev

theorem sameN_self (L H : Nat) (mn mx : Int) : sameN L H L H mn mx mn mx = true := by unfold sameN; simp
theorem Same_self (lo hi : List Int) (mn mx : Int) (A B A' B' : Option Addr) (c1 c2 c1' c2' : Nat) (w : World) (ha : Ints w A lo) (hb : Ints w B hi) (ha' : Ints w A' lo) (hb' : Ints w B' hi) (hV : validFB lo hi mn mx = true) :
    Calls Tryz.prog 10 #[.agg #[.slice A lo.length c1, .slice B hi.length c2, .int .i64 mn, .int .i64 mx], .agg #[.slice A' lo.length c1', .slice B' hi.length c2', .int .i64 mn, .int .i64 mx]] w fun e w' => e = .returned (.bool true) ∧ Below w.heap.size w w' := by
  have := Same_any lo hi lo hi mn mx mn mx A B A' B' c1 c2 c1' c2' w ha hb ha' hb' hV hV
  rwa [sameN_self] at this
/-- what Parse gives back of a normal family's own text -/
theorem Parse_back (lo hi : List Int) (mn mx : Int) (hn : normF lo hi mn mx = true) (w : World) (hL : LibIn w) :
    Calls Tryz.prog 8 #[.string (famL lo hi mn.toNat mx.toNat)] w fun e w' => (∃ P ca Q cb, e = .returned (.tuple #[.agg #[.slice P lo.length ca, .slice Q hi.length cb, .int .i64 mn, .int .i64 mx], .int .i64 0]) ∧ Ints w' P lo ∧ Ints w' Q hi) ∧ Below w.heap.size w w' := by
  have hr := valid_range (normF_valid hn)
  obtain ⟨e1, e2, e3, e4⟩ := back_doc hr rfl
  have hlen : (famT lo hi mn.toNat mx.toNat).length ≤ 1000000 := by
    obtain ⟨x1, x2, m1, m2, l1, l2⟩ := hr
    have := joinB_len lo
    have := joinB_len hi
    have := db_len mn.toNat
    have := db_len mx.toNat
    unfold famT listB dots hash
    simp only [List.length_append, List.length_cons, List.length_nil]
    omega
  rw [famL_eq]
  refine (Parse_p (famT lo hi mn.toNat mx.toNat) hlen w hL).mono ?_
  intro e w' h
  unfold ParseOut ParseRes at h
  rw [e1, e2, e3, e4, txT_ok hn, if_pos ⟨rfl, famL_eq _ _ _ _⟩] at h
  exact h
set_option maxRecDepth 100000 in
set_option maxHeartbeats 8000000 in
theorem FTx_heavy (lo hi : List Int) (mn mx : Int) (A B : Option Addr) (c1 c2 : Nat) (s : ByteArray) (w : World) (hT : TabIn w) (hlb : lightB1 lo.length hi.length = false) :
    Calls Tryz.prog 3 #[.agg #[.slice A lo.length c1, .slice B hi.length c2, .int .i64 mn, .int .i64 mx], .string s] w fun e w' => e = .returned (.bool true) ∧ Below w.heap.size w w' := by
  have AW := Lib.hid (fun w1 (h : Below w.heap.size w w1) => fawake_any w1 (hT.below h hT.lt))
  have LT := Lib.hid (fun b w1 h => light1_any lo.length hi.length A B c1 c2 mn mx b w1 h)
  rw [hlb] at LT
  clear hT hlb
  go_enter Tryz.func3, Tryz.ntmps3
  go_upto_region 1 with fail
  have BA := Lib.hid (show Below w.heap.size w (w.alloc (.cells #[.slice A lo.length c1, .slice B hi.length c2, .int .i64 mn, .int .i64 mx] 24)) from (Below.refl _ w).alloc (Nat.le_refl _) _)
  have FA := Lib.hid (show ∀ wx : World, Below (w.heap.size + 1) (w.alloc (.cells #[.slice A lo.length c1, .slice B hi.length c2, .int .i64 mn, .int .i64 mx] 24)) wx → wx.cell? ⟨w.heap.size, 0, none⟩ = some (.slice A lo.length c1) ∧ wx.cell? ⟨w.heap.size, 1, none⟩ = some (.slice B hi.length c2) ∧ wx.cell? ⟨w.heap.size, 2, none⟩ = some (.int .i64 mn) ∧ wx.cell? ⟨w.heap.size, 3, none⟩ = some (.int .i64 mx) from fun wx h => by
    have hh := (h.block w.heap.size (by omega)).trans (heap_alloc_new w (.cells #[.slice A lo.length c1, .slice B hi.length c2, .int .i64 mn, .int .i64 mx] 24))
    refine ⟨?_, ?_, ?_, ?_⟩ <;> (simp only [World.cell?, hh]; rfl))
  have SZ := Lib.hid (show w.heap.size + 1 ≤ (w.alloc (.cells #[.slice A lo.length c1, .slice B hi.length c2, .int .i64 mn, .int .i64 mx] 24)).heap.size from by simp)
  generalize (w.alloc (.cells #[.slice A lo.length c1, .slice B hi.length c2, .int .i64 mn, .int .i64 mx] 24)) = u at *
  obtain ⟨a0, a1, a2, a3⟩ := FA.out u (Below.refl _ _)
  go_wp2_with (first | (go_at_call 4; refine (LT.out _ _ (heap_alloc_new u _)).mono ?_; rintro e y1 ⟨rfl, hb⟩; have B1 := Lib.hid ((BA.out.alloc BA.out.size _).trans (hb.mono (Nat.le_trans BA.out.size (by simp)))); have K1 := Lib.hid (((Below.refl _ u).alloc SZ.out _).trans (hb.mono (Nat.le_trans SZ.out (by simp)))); have Z1 := Lib.hid (show w.heap.size + 1 ≤ y1.heap.size from Nat.le_trans (Nat.le_trans SZ.out (by simp)) hb.size); clear a0 a1 a2 a3 hb LT) | (go_at_call 5; refine (AW.out _ (B1.out)).mono ?_; rintro e yz ⟨rfl, hb⟩; have BZ := Lib.hid ((B1.out).trans (hb.mono (B1.out).size)); clear hb AW))
  go_ret
  exact ⟨rfl, BZ.out⟩
set_option maxRecDepth 100000 in
set_option maxHeartbeats 8000000 in
theorem FTx_long (lo hi : List Int) (mn mx : Int) (A B : Option Addr) (c1 c2 : Nat) (s : ByteArray) (w : World) (ha : Ints w A lo) (hb : Ints w B hi) (hT : TabIn w) (hlb : lightB1 lo.length hi.length = true) (hs : (2000 : Int) < (s.size : Int)) :
    Calls Tryz.prog 3 #[.agg #[.slice A lo.length c1, .slice B hi.length c2, .int .i64 mn, .int .i64 mx], .string s] w fun e w' => e = .returned (.bool true) ∧ Below w.heap.size w w' := by
  have AW := Lib.hid (fun w1 (h : Below w.heap.size w w1) => fawake_any w1 (hT.below h hT.lt))
  have LT := Lib.hid (fun b w1 h => light1_any lo.length hi.length A B c1 c2 mn mx b w1 h)
  rw [hlb] at LT
  clear ha hb hT hlb
  go_enter Tryz.func3, Tryz.ntmps3
  go_upto_region 1 with fail
  have BA := Lib.hid (show Below w.heap.size w (w.alloc (.cells #[.slice A lo.length c1, .slice B hi.length c2, .int .i64 mn, .int .i64 mx] 24)) from (Below.refl _ w).alloc (Nat.le_refl _) _)
  have FA := Lib.hid (show ∀ wx : World, Below (w.heap.size + 1) (w.alloc (.cells #[.slice A lo.length c1, .slice B hi.length c2, .int .i64 mn, .int .i64 mx] 24)) wx → wx.cell? ⟨w.heap.size, 0, none⟩ = some (.slice A lo.length c1) ∧ wx.cell? ⟨w.heap.size, 1, none⟩ = some (.slice B hi.length c2) ∧ wx.cell? ⟨w.heap.size, 2, none⟩ = some (.int .i64 mn) ∧ wx.cell? ⟨w.heap.size, 3, none⟩ = some (.int .i64 mx) from fun wx h => by
    have hh := (h.block w.heap.size (by omega)).trans (heap_alloc_new w (.cells #[.slice A lo.length c1, .slice B hi.length c2, .int .i64 mn, .int .i64 mx] 24))
    refine ⟨?_, ?_, ?_, ?_⟩ <;> (simp only [World.cell?, hh]; rfl))
  have SZ := Lib.hid (show w.heap.size + 1 ≤ (w.alloc (.cells #[.slice A lo.length c1, .slice B hi.length c2, .int .i64 mn, .int .i64 mx] 24)).heap.size from by simp)
  generalize (w.alloc (.cells #[.slice A lo.length c1, .slice B hi.length c2, .int .i64 mn, .int .i64 mx] 24)) = u at *
  obtain ⟨a0, a1, a2, a3⟩ := FA.out u (Below.refl _ _)
  go_wp2_with (first | (go_at_call 4; refine (LT.out _ _ (heap_alloc_new u _)).mono ?_; rintro e y1 ⟨rfl, hb⟩; have B1 := Lib.hid ((BA.out.alloc BA.out.size _).trans (hb.mono (Nat.le_trans BA.out.size (by simp)))); have K1 := Lib.hid (((Below.refl _ u).alloc SZ.out _).trans (hb.mono (Nat.le_trans SZ.out (by simp)))); have Z1 := Lib.hid (show w.heap.size + 1 ≤ y1.heap.size from Nat.le_trans (Nat.le_trans SZ.out (by simp)) hb.size); clear a0 a1 a2 a3 hb LT) | (go_at_call 5; refine (AW.out _ (B1.out)).mono ?_; rintro e yz ⟨rfl, hb⟩; have BZ := Lib.hid ((B1.out).trans (hb.mono (B1.out).size)); clear hb AW))
  go_ret
  exact ⟨rfl, BZ.out⟩
set_option maxRecDepth 100000 in
set_option maxHeartbeats 8000000 in
theorem FTx_yy (lo hi : List Int) (mn mx : Int) (A B : Option Addr) (c1 c2 : Nat) (l : List UInt8) (w : World) (ha : Ints w A lo) (hb : Ints w B hi) (hT : TabIn w) (hL : LibIn w) (hlb : lightB1 lo.length hi.length = true) (hl : l.length ≤ 2000) (hp : TxOk l (readLo l) (readHi l) (readMn l) (readMx l)) (hn : normF lo hi mn mx = true) :
    Calls Tryz.prog 3 #[.agg #[.slice A lo.length c1, .slice B hi.length c2, .int .i64 mn, .int .i64 mx], .string (st l)] w fun e w' => e = .returned (.bool true) ∧ Below w.heap.size w w' := by
  have AW := Lib.hid (fun w1 (h : Below w.heap.size w w1) => fawake_any w1 (hT.below h hT.lt))
  have LT := Lib.hid (fun b w1 h => light1_any lo.length hi.length A B c1 c2 mn mx b w1 h)
  rw [hlb] at LT
  have HA := Lib.hid ha
  have HB := Lib.hid hb
  have zs : ¬ (2000 : Int) < ((st l).size : Int) := by rw [st_size]; omega
  have TP := Lib.hid (fun w1 (h : Below w.heap.size w w1) => Text_p lo hi mn mx A B c1 c2 w1 (ha.over h) (hb.over h))
  have TD := Lib.hid (fun w1 (h : Below w.heap.size w w1) => Text_d lo hi mn mx A B c1 c2 w1 (ha.over h) (hb.over h))
  have PP := Lib.hid (fun w1 (h : Below w.heap.size w w1) => Parse_p l (by omega) w1 (hL.over h))
  have PD := Lib.hid (fun w1 (h : Below w.heap.size w w1) => Parse_d l (by omega) w1)
  unfold ParseOut ParseRes at PP PD
  have pp : (txT (readLo l) (readHi l) (readMn l) (readMx l)).2 = 0 ∧ (txT (readLo l) (readHi l) (readMn l) (readMx l)).1 = st l := hp
  simp only [if_pos pp] at PP PD
  clear pp
  have S1 := Lib.hid (fun P Q P' Q' k1 k2 k3 k4 w1 (h1 : Ints w1 P (readLo l)) (h2 : Ints w1 Q (readHi l)) (h3 : Ints w1 P' (readLo l)) (h4 : Ints w1 Q' (readHi l)) => Same_self (readLo l) (readHi l) (readMn l) (readMx l) P Q P' Q' k1 k2 k3 k4 w1 h1 h2 h3 h4 (normF_valid (txOk_norm hp)))
  generalize readLo l = r1 at *
  generalize readHi l = r2 at *
  generalize readMn l = r3 at *
  generalize readMx l = r4 at *
  rw [txT_ok hn] at TP TD
  have PB := Lib.hid (fun w1 (h : Below w.heap.size w w1) => Parse_back lo hi mn mx hn w1 (hL.over h))
  have S2 := Lib.hid (fun P Q k1 k2 w1 (h : Below w.heap.size w w1) (h1 : Ints w1 P lo) (h2 : Ints w1 Q hi) => Same_self lo hi mn mx P Q A B k1 k2 c1 c2 w1 h1 h2 (ha.over h) (hb.over h) (normF_valid hn))
  generalize famL lo hi mn.toNat mx.toNat = T0 at *
  clear ha hb hT hL hlb hl hp hn
  go_enter Tryz.func3, Tryz.ntmps3
  go_upto_region 1 with fail
  have BA := Lib.hid (show Below w.heap.size w (w.alloc (.cells #[.slice A lo.length c1, .slice B hi.length c2, .int .i64 mn, .int .i64 mx] 24)) from (Below.refl _ w).alloc (Nat.le_refl _) _)
  have FA := Lib.hid (show ∀ wx : World, Below (w.heap.size + 1) (w.alloc (.cells #[.slice A lo.length c1, .slice B hi.length c2, .int .i64 mn, .int .i64 mx] 24)) wx → wx.cell? ⟨w.heap.size, 0, none⟩ = some (.slice A lo.length c1) ∧ wx.cell? ⟨w.heap.size, 1, none⟩ = some (.slice B hi.length c2) ∧ wx.cell? ⟨w.heap.size, 2, none⟩ = some (.int .i64 mn) ∧ wx.cell? ⟨w.heap.size, 3, none⟩ = some (.int .i64 mx) from fun wx h => by
    have hh := (h.block w.heap.size (by omega)).trans (heap_alloc_new w (.cells #[.slice A lo.length c1, .slice B hi.length c2, .int .i64 mn, .int .i64 mx] 24))
    refine ⟨?_, ?_, ?_, ?_⟩ <;> (simp only [World.cell?, hh]; rfl))
  have SZ := Lib.hid (show w.heap.size + 1 ≤ (w.alloc (.cells #[.slice A lo.length c1, .slice B hi.length c2, .int .i64 mn, .int .i64 mx] 24)).heap.size from by simp)
  generalize (w.alloc (.cells #[.slice A lo.length c1, .slice B hi.length c2, .int .i64 mn, .int .i64 mx] 24)) = u at *
  obtain ⟨a0, a1, a2, a3⟩ := FA.out u (Below.refl _ _)
  go_upto_region 3 with (go_at_call 4; refine (LT.out _ _ (heap_alloc_new u _)).mono ?_; rintro e y1 ⟨rfl, hb⟩; have B1 := Lib.hid ((BA.out.alloc BA.out.size _).trans (hb.mono (Nat.le_trans BA.out.size (by simp)))); have K1 := Lib.hid (((Below.refl _ u).alloc SZ.out _).trans (hb.mono (Nat.le_trans SZ.out (by simp)))); have Z1 := Lib.hid (show w.heap.size + 1 ≤ y1.heap.size from Nat.le_trans (Nat.le_trans SZ.out (by simp)) hb.size); clear a0 a1 a2 a3 hb LT)
  obtain ⟨a0, a1, a2, a3⟩ := FA.out _ K1.out
  go_upto_region 4 with (go_at_call 6; refine (TP.out _ B1.out).mono ?_; rintro e y2 ⟨rfl, hb⟩; have B2 := Lib.hid (B1.out.trans (hb.mono B1.out.size)); have K2 := Lib.hid (K1.out.trans (hb.mono Z1.out)); have Z2 := Lib.hid (Nat.le_trans Z1.out hb.size); clear a0 a1 a2 a3 hb TP)
  obtain ⟨a0, a1, a2, a3⟩ := FA.out _ K2.out
  go_upto_region 5 with (go_at_call 7; refine (TD.out _ B2.out).mono ?_; rintro e y3 ⟨rfl, hb⟩; have B3 := Lib.hid (B2.out.trans (hb.mono B2.out.size)); have K3 := Lib.hid (K2.out.trans (hb.mono Z2.out)); have Z3 := Lib.hid (Nat.le_trans Z2.out hb.size); clear a0 a1 a2 a3 hb TD)
  go_upto_region 6 with (go_at_call 8; refine (PP.out _ B3.out).mono ?_; rintro e y4 ⟨⟨P, ca, Q, cb, rfl, i1, i2⟩, hb⟩; have I4 := Lib.hid i1; have J4 := Lib.hid i2; have B4 := Lib.hid (B3.out.trans (hb.mono B3.out.size)); have K4 := Lib.hid (K3.out.trans (hb.mono Z3.out)); have Z4 := Lib.hid (Nat.le_trans Z3.out hb.size); clear i1 i2 hb PP)
  have N4 := Lib.hid (show Below y4.heap.size y4 (y4.alloc (.cells #[.slice P r1.length ca, .slice Q r2.length cb, .int .i64 r3, .int .i64 r4] 24)) from (Below.refl _ y4).alloc (Nat.le_refl _) _)
  have F4_ := Lib.hid (show F4 (y4.alloc (.cells #[.slice P r1.length ca, .slice Q r2.length cb, .int .i64 r3, .int .i64 r4] 24)) y4.heap.size (.slice P r1.length ca) (.slice Q r2.length cb) (.int .i64 r3) (.int .i64 r4) from heap_alloc_new y4 (.cells #[.slice P r1.length ca, .slice Q r2.length cb, .int .i64 r3, .int .i64 r4] 24))
  replace B4 := Lib.hid (B4.out.trans (N4.out.mono B4.out.size))
  replace K4 := Lib.hid (K4.out.trans (N4.out.mono Z4.out))
  replace Z4 := Lib.hid (Nat.le_trans Z4.out N4.out.size)
  replace I4 := Lib.hid (I4.out.over N4.out)
  replace J4 := Lib.hid (J4.out.over N4.out)
  clear N4
  generalize (y4.alloc (.cells #[.slice P r1.length ca, .slice Q r2.length cb, .int .i64 r3, .int .i64 r4] 24)) = v4 at *
  generalize y4.heap.size = g4 at *
  go_upto_region 7 with (go_at_call 9; refine (PD.out _ B4.out).mono ?_; rintro e y5 ⟨⟨P', ca', Q', cb', rfl, i1, i2⟩, hb⟩; have I5 := Lib.hid i1; have J5 := Lib.hid i2; have B5 := Lib.hid (B4.out.trans (hb.mono B4.out.size)); have K5 := Lib.hid (K4.out.trans (hb.mono Z4.out)); have Z5 := Lib.hid (Nat.le_trans Z4.out hb.size); replace I4 := Lib.hid (I4.out.over hb); replace J4 := Lib.hid (J4.out.over hb); replace F4_ := Lib.hid (F4_.out.over hb); clear i1 i2 hb PD)
  have N5 := Lib.hid (show Below y5.heap.size y5 (y5.alloc (.cells #[.slice P' r1.length ca', .slice Q' r2.length cb', .int .i64 r3, .int .i64 r4] 24)) from (Below.refl _ y5).alloc (Nat.le_refl _) _)
  have F5 := Lib.hid (show F4 (y5.alloc (.cells #[.slice P' r1.length ca', .slice Q' r2.length cb', .int .i64 r3, .int .i64 r4] 24)) y5.heap.size (.slice P' r1.length ca') (.slice Q' r2.length cb') (.int .i64 r3) (.int .i64 r4) from heap_alloc_new y5 (.cells #[.slice P' r1.length ca', .slice Q' r2.length cb', .int .i64 r3, .int .i64 r4] 24))
  replace B5 := Lib.hid (B5.out.trans (N5.out.mono B5.out.size))
  replace K5 := Lib.hid (K5.out.trans (N5.out.mono Z5.out))
  replace Z5 := Lib.hid (Nat.le_trans Z5.out N5.out.size)
  replace I4 := Lib.hid (I4.out.over N5.out)
  replace J4 := Lib.hid (J4.out.over N5.out)
  replace F4_ := Lib.hid (F4_.out.over N5.out)
  replace I5 := Lib.hid (I5.out.over N5.out)
  replace J5 := Lib.hid (J5.out.over N5.out)
  clear N5
  generalize (y5.alloc (.cells #[.slice P' r1.length ca', .slice Q' r2.length cb', .int .i64 r3, .int .i64 r4] 24)) = v5 at *
  generalize y5.heap.size = g5 at *
  obtain ⟨b0, b1, b2, b3, fb⟩ := F4_.out.facts
  obtain ⟨d0, d1, d2, d3, fd⟩ := F5.out.facts
  clear fb fd
  go_upto_region 9 with (go_at_call 10; refine (S1.out P Q P' Q' ca cb ca' cb' _ I4.out J4.out I5.out J5.out).mono ?_; rintro e y6 ⟨rfl, hb⟩; have B6 := Lib.hid (B5.out.trans (hb.mono B5.out.size)); have K6 := Lib.hid (K5.out.trans (hb.mono Z5.out)); have Z6 := Lib.hid (Nat.le_trans Z5.out hb.size); clear b0 b1 b2 b3 d0 d1 d2 d3 hb S1)
  go_upto_region 11 with (go_at_call 8; refine (PB.out _ B6.out).mono ?_; rintro e y7 ⟨⟨R, cc, U, cd, rfl, i1, i2⟩, hb⟩; have I7 := Lib.hid i1; have J7 := Lib.hid i2; have B7 := Lib.hid (B6.out.trans (hb.mono B6.out.size)); have K7 := Lib.hid (K6.out.trans (hb.mono Z6.out)); have Z7 := Lib.hid (Nat.le_trans Z6.out hb.size); clear i1 i2 hb PB)
  have N7 := Lib.hid (show Below y7.heap.size y7 (y7.alloc (.cells #[.slice R lo.length cc, .slice U hi.length cd, .int .i64 mn, .int .i64 mx] 24)) from (Below.refl _ y7).alloc (Nat.le_refl _) _)
  have F7 := Lib.hid (show F4 (y7.alloc (.cells #[.slice R lo.length cc, .slice U hi.length cd, .int .i64 mn, .int .i64 mx] 24)) y7.heap.size (.slice R lo.length cc) (.slice U hi.length cd) (.int .i64 mn) (.int .i64 mx) from heap_alloc_new y7 (.cells #[.slice R lo.length cc, .slice U hi.length cd, .int .i64 mn, .int .i64 mx] 24))
  replace B7 := Lib.hid (B7.out.trans (N7.out.mono B7.out.size))
  replace K7 := Lib.hid (K7.out.trans (N7.out.mono Z7.out))
  replace Z7 := Lib.hid (Nat.le_trans Z7.out N7.out.size)
  replace I7 := Lib.hid (I7.out.over N7.out)
  replace J7 := Lib.hid (J7.out.over N7.out)
  clear N7
  generalize (y7.alloc (.cells #[.slice R lo.length cc, .slice U hi.length cd, .int .i64 mn, .int .i64 mx] 24)) = v7 at *
  generalize y7.heap.size = g7 at *
  obtain ⟨b0, b1, b2, b3, fb⟩ := F7.out.facts
  obtain ⟨a0, a1, a2, a3⟩ := FA.out _ K7.out
  clear fb
  go_upto_region 13 with (go_at_call 10; refine (S2.out R U cc cd _ B7.out I7.out J7.out).mono ?_; rintro e y8 ⟨rfl, hb⟩; have B8 := Lib.hid (B7.out.trans (hb.mono B7.out.size)); have K8 := Lib.hid (K7.out.trans (hb.mono Z7.out)); have Z8 := Lib.hid (Nat.le_trans Z7.out hb.size); clear a0 a1 a2 a3 b0 b1 b2 b3 hb S2)
  go_wp2_with (go_at_call 5; refine (AW.out _ (B8.out)).mono ?_; rintro e yz ⟨rfl, hb⟩; have BZ := Lib.hid ((B8.out).trans (hb.mono (B8.out).size)); clear hb AW)
  go_ret
  exact ⟨rfl, BZ.out⟩
set_option maxRecDepth 100000 in
set_option maxHeartbeats 8000000 in
theorem FTx_yn (lo hi : List Int) (mn mx : Int) (A B : Option Addr) (c1 c2 : Nat) (l : List UInt8) (w : World) (ha : Ints w A lo) (hb : Ints w B hi) (hT : TabIn w) (hL : LibIn w) (hlb : lightB1 lo.length hi.length = true) (hl : l.length ≤ 2000) (hp : TxOk l (readLo l) (readHi l) (readMn l) (readMx l)) (hn : ¬ normF lo hi mn mx = true) :
    Calls Tryz.prog 3 #[.agg #[.slice A lo.length c1, .slice B hi.length c2, .int .i64 mn, .int .i64 mx], .string (st l)] w fun e w' => e = .returned (.bool true) ∧ Below w.heap.size w w' := by
  have AW := Lib.hid (fun w1 (h : Below w.heap.size w w1) => fawake_any w1 (hT.below h hT.lt))
  have LT := Lib.hid (fun b w1 h => light1_any lo.length hi.length A B c1 c2 mn mx b w1 h)
  rw [hlb] at LT
  have HA := Lib.hid ha
  have HB := Lib.hid hb
  have zs : ¬ (2000 : Int) < ((st l).size : Int) := by rw [st_size]; omega
  have TP := Lib.hid (fun w1 (h : Below w.heap.size w w1) => Text_p lo hi mn mx A B c1 c2 w1 (ha.over h) (hb.over h))
  have TD := Lib.hid (fun w1 (h : Below w.heap.size w w1) => Text_d lo hi mn mx A B c1 c2 w1 (ha.over h) (hb.over h))
  have PP := Lib.hid (fun w1 (h : Below w.heap.size w w1) => Parse_p l (by omega) w1 (hL.over h))
  have PD := Lib.hid (fun w1 (h : Below w.heap.size w w1) => Parse_d l (by omega) w1)
  unfold ParseOut ParseRes at PP PD
  have pp : (txT (readLo l) (readHi l) (readMn l) (readMx l)).2 = 0 ∧ (txT (readLo l) (readHi l) (readMn l) (readMx l)).1 = st l := hp
  simp only [if_pos pp] at PP PD
  clear pp
  have S1 := Lib.hid (fun P Q P' Q' k1 k2 k3 k4 w1 (h1 : Ints w1 P (readLo l)) (h2 : Ints w1 Q (readHi l)) (h3 : Ints w1 P' (readLo l)) (h4 : Ints w1 Q' (readHi l)) => Same_self (readLo l) (readHi l) (readMn l) (readMx l) P Q P' Q' k1 k2 k3 k4 w1 h1 h2 h3 h4 (normF_valid (txOk_norm hp)))
  generalize readLo l = r1 at *
  generalize readHi l = r2 at *
  generalize readMn l = r3 at *
  generalize readMx l = r4 at *
  rw [show txT lo hi mn mx = (⟨#[]⟩, 2) from if_neg hn] at TP TD
  clear ha hb hT hL hlb hl hp hn
  go_enter Tryz.func3, Tryz.ntmps3
  go_upto_region 1 with fail
  have BA := Lib.hid (show Below w.heap.size w (w.alloc (.cells #[.slice A lo.length c1, .slice B hi.length c2, .int .i64 mn, .int .i64 mx] 24)) from (Below.refl _ w).alloc (Nat.le_refl _) _)
  have FA := Lib.hid (show ∀ wx : World, Below (w.heap.size + 1) (w.alloc (.cells #[.slice A lo.length c1, .slice B hi.length c2, .int .i64 mn, .int .i64 mx] 24)) wx → wx.cell? ⟨w.heap.size, 0, none⟩ = some (.slice A lo.length c1) ∧ wx.cell? ⟨w.heap.size, 1, none⟩ = some (.slice B hi.length c2) ∧ wx.cell? ⟨w.heap.size, 2, none⟩ = some (.int .i64 mn) ∧ wx.cell? ⟨w.heap.size, 3, none⟩ = some (.int .i64 mx) from fun wx h => by
    have hh := (h.block w.heap.size (by omega)).trans (heap_alloc_new w (.cells #[.slice A lo.length c1, .slice B hi.length c2, .int .i64 mn, .int .i64 mx] 24))
    refine ⟨?_, ?_, ?_, ?_⟩ <;> (simp only [World.cell?, hh]; rfl))
  have SZ := Lib.hid (show w.heap.size + 1 ≤ (w.alloc (.cells #[.slice A lo.length c1, .slice B hi.length c2, .int .i64 mn, .int .i64 mx] 24)).heap.size from by simp)
  generalize (w.alloc (.cells #[.slice A lo.length c1, .slice B hi.length c2, .int .i64 mn, .int .i64 mx] 24)) = u at *
  obtain ⟨a0, a1, a2, a3⟩ := FA.out u (Below.refl _ _)
  go_upto_region 3 with (go_at_call 4; refine (LT.out _ _ (heap_alloc_new u _)).mono ?_; rintro e y1 ⟨rfl, hb⟩; have B1 := Lib.hid ((BA.out.alloc BA.out.size _).trans (hb.mono (Nat.le_trans BA.out.size (by simp)))); have K1 := Lib.hid (((Below.refl _ u).alloc SZ.out _).trans (hb.mono (Nat.le_trans SZ.out (by simp)))); have Z1 := Lib.hid (show w.heap.size + 1 ≤ y1.heap.size from Nat.le_trans (Nat.le_trans SZ.out (by simp)) hb.size); clear a0 a1 a2 a3 hb LT)
  obtain ⟨a0, a1, a2, a3⟩ := FA.out _ K1.out
  go_upto_region 4 with (go_at_call 6; refine (TP.out _ B1.out).mono ?_; rintro e y2 ⟨rfl, hb⟩; have B2 := Lib.hid (B1.out.trans (hb.mono B1.out.size)); have K2 := Lib.hid (K1.out.trans (hb.mono Z1.out)); have Z2 := Lib.hid (Nat.le_trans Z1.out hb.size); clear a0 a1 a2 a3 hb TP)
  obtain ⟨a0, a1, a2, a3⟩ := FA.out _ K2.out
  go_upto_region 5 with (go_at_call 7; refine (TD.out _ B2.out).mono ?_; rintro e y3 ⟨rfl, hb⟩; have B3 := Lib.hid (B2.out.trans (hb.mono B2.out.size)); have K3 := Lib.hid (K2.out.trans (hb.mono Z2.out)); have Z3 := Lib.hid (Nat.le_trans Z2.out hb.size); clear a0 a1 a2 a3 hb TD)
  go_upto_region 6 with (go_at_call 8; refine (PP.out _ B3.out).mono ?_; rintro e y4 ⟨⟨P, ca, Q, cb, rfl, i1, i2⟩, hb⟩; have I4 := Lib.hid i1; have J4 := Lib.hid i2; have B4 := Lib.hid (B3.out.trans (hb.mono B3.out.size)); have K4 := Lib.hid (K3.out.trans (hb.mono Z3.out)); have Z4 := Lib.hid (Nat.le_trans Z3.out hb.size); clear i1 i2 hb PP)
  have N4 := Lib.hid (show Below y4.heap.size y4 (y4.alloc (.cells #[.slice P r1.length ca, .slice Q r2.length cb, .int .i64 r3, .int .i64 r4] 24)) from (Below.refl _ y4).alloc (Nat.le_refl _) _)
  have F4_ := Lib.hid (show F4 (y4.alloc (.cells #[.slice P r1.length ca, .slice Q r2.length cb, .int .i64 r3, .int .i64 r4] 24)) y4.heap.size (.slice P r1.length ca) (.slice Q r2.length cb) (.int .i64 r3) (.int .i64 r4) from heap_alloc_new y4 (.cells #[.slice P r1.length ca, .slice Q r2.length cb, .int .i64 r3, .int .i64 r4] 24))
  replace B4 := Lib.hid (B4.out.trans (N4.out.mono B4.out.size))
  replace K4 := Lib.hid (K4.out.trans (N4.out.mono Z4.out))
  replace Z4 := Lib.hid (Nat.le_trans Z4.out N4.out.size)
  replace I4 := Lib.hid (I4.out.over N4.out)
  replace J4 := Lib.hid (J4.out.over N4.out)
  clear N4
  generalize (y4.alloc (.cells #[.slice P r1.length ca, .slice Q r2.length cb, .int .i64 r3, .int .i64 r4] 24)) = v4 at *
  generalize y4.heap.size = g4 at *
  go_upto_region 7 with (go_at_call 9; refine (PD.out _ B4.out).mono ?_; rintro e y5 ⟨⟨P', ca', Q', cb', rfl, i1, i2⟩, hb⟩; have I5 := Lib.hid i1; have J5 := Lib.hid i2; have B5 := Lib.hid (B4.out.trans (hb.mono B4.out.size)); have K5 := Lib.hid (K4.out.trans (hb.mono Z4.out)); have Z5 := Lib.hid (Nat.le_trans Z4.out hb.size); replace I4 := Lib.hid (I4.out.over hb); replace J4 := Lib.hid (J4.out.over hb); replace F4_ := Lib.hid (F4_.out.over hb); clear i1 i2 hb PD)
  have N5 := Lib.hid (show Below y5.heap.size y5 (y5.alloc (.cells #[.slice P' r1.length ca', .slice Q' r2.length cb', .int .i64 r3, .int .i64 r4] 24)) from (Below.refl _ y5).alloc (Nat.le_refl _) _)
  have F5 := Lib.hid (show F4 (y5.alloc (.cells #[.slice P' r1.length ca', .slice Q' r2.length cb', .int .i64 r3, .int .i64 r4] 24)) y5.heap.size (.slice P' r1.length ca') (.slice Q' r2.length cb') (.int .i64 r3) (.int .i64 r4) from heap_alloc_new y5 (.cells #[.slice P' r1.length ca', .slice Q' r2.length cb', .int .i64 r3, .int .i64 r4] 24))
  replace B5 := Lib.hid (B5.out.trans (N5.out.mono B5.out.size))
  replace K5 := Lib.hid (K5.out.trans (N5.out.mono Z5.out))
  replace Z5 := Lib.hid (Nat.le_trans Z5.out N5.out.size)
  replace I4 := Lib.hid (I4.out.over N5.out)
  replace J4 := Lib.hid (J4.out.over N5.out)
  replace F4_ := Lib.hid (F4_.out.over N5.out)
  replace I5 := Lib.hid (I5.out.over N5.out)
  replace J5 := Lib.hid (J5.out.over N5.out)
  clear N5
  generalize (y5.alloc (.cells #[.slice P' r1.length ca', .slice Q' r2.length cb', .int .i64 r3, .int .i64 r4] 24)) = v5 at *
  generalize y5.heap.size = g5 at *
  obtain ⟨b0, b1, b2, b3, fb⟩ := F4_.out.facts
  obtain ⟨d0, d1, d2, d3, fd⟩ := F5.out.facts
  clear fb fd
  go_upto_region 9 with (go_at_call 10; refine (S1.out P Q P' Q' ca cb ca' cb' _ I4.out J4.out I5.out J5.out).mono ?_; rintro e y6 ⟨rfl, hb⟩; have B6 := Lib.hid (B5.out.trans (hb.mono B5.out.size)); have K6 := Lib.hid (K5.out.trans (hb.mono Z5.out)); have Z6 := Lib.hid (Nat.le_trans Z5.out hb.size); clear b0 b1 b2 b3 d0 d1 d2 d3 hb S1)
  go_upto_region 13 with fail
  go_wp2_with (go_at_call 5; refine (AW.out _ (B6.out)).mono ?_; rintro e yz ⟨rfl, hb⟩; have BZ := Lib.hid ((B6.out).trans (hb.mono (B6.out).size)); clear hb AW)
  go_ret
  exact ⟨rfl, BZ.out⟩
set_option maxRecDepth 100000 in
set_option maxHeartbeats 8000000 in
theorem FTx_ny (lo hi : List Int) (mn mx : Int) (A B : Option Addr) (c1 c2 : Nat) (l : List UInt8) (w : World) (ha : Ints w A lo) (hb : Ints w B hi) (hT : TabIn w) (hL : LibIn w) (hlb : lightB1 lo.length hi.length = true) (hl : l.length ≤ 2000) (hp : ¬ TxOk l (readLo l) (readHi l) (readMn l) (readMx l)) (hn : normF lo hi mn mx = true) :
    Calls Tryz.prog 3 #[.agg #[.slice A lo.length c1, .slice B hi.length c2, .int .i64 mn, .int .i64 mx], .string (st l)] w fun e w' => e = .returned (.bool true) ∧ Below w.heap.size w w' := by
  have AW := Lib.hid (fun w1 (h : Below w.heap.size w w1) => fawake_any w1 (hT.below h hT.lt))
  have LT := Lib.hid (fun b w1 h => light1_any lo.length hi.length A B c1 c2 mn mx b w1 h)
  rw [hlb] at LT
  have HA := Lib.hid ha
  have HB := Lib.hid hb
  have zs : ¬ (2000 : Int) < ((st l).size : Int) := by rw [st_size]; omega
  have TP := Lib.hid (fun w1 (h : Below w.heap.size w w1) => Text_p lo hi mn mx A B c1 c2 w1 (ha.over h) (hb.over h))
  have TD := Lib.hid (fun w1 (h : Below w.heap.size w w1) => Text_d lo hi mn mx A B c1 c2 w1 (ha.over h) (hb.over h))
  have PP := Lib.hid (fun w1 (h : Below w.heap.size w w1) => Parse_p l (by omega) w1 (hL.over h))
  have PD := Lib.hid (fun w1 (h : Below w.heap.size w w1) => Parse_d l (by omega) w1)
  unfold ParseOut ParseRes at PP PD
  have pp : ¬ ((txT (readLo l) (readHi l) (readMn l) (readMx l)).2 = 0 ∧ (txT (readLo l) (readHi l) (readMn l) (readMx l)).1 = st l) := hp
  simp only [if_neg pp] at PP PD
  clear pp
  have ZT := Lib.hid zero_true
  rw [txT_ok hn] at TP TD
  have PB := Lib.hid (fun w1 (h : Below w.heap.size w w1) => Parse_back lo hi mn mx hn w1 (hL.over h))
  have S2 := Lib.hid (fun P Q k1 k2 w1 (h : Below w.heap.size w w1) (h1 : Ints w1 P lo) (h2 : Ints w1 Q hi) => Same_self lo hi mn mx P Q A B k1 k2 c1 c2 w1 h1 h2 (ha.over h) (hb.over h) (normF_valid hn))
  generalize famL lo hi mn.toNat mx.toNat = T0 at *
  clear ha hb hT hL hlb hl hp hn
  go_enter Tryz.func3, Tryz.ntmps3
  go_upto_region 1 with fail
  have BA := Lib.hid (show Below w.heap.size w (w.alloc (.cells #[.slice A lo.length c1, .slice B hi.length c2, .int .i64 mn, .int .i64 mx] 24)) from (Below.refl _ w).alloc (Nat.le_refl _) _)
  have FA := Lib.hid (show ∀ wx : World, Below (w.heap.size + 1) (w.alloc (.cells #[.slice A lo.length c1, .slice B hi.length c2, .int .i64 mn, .int .i64 mx] 24)) wx → wx.cell? ⟨w.heap.size, 0, none⟩ = some (.slice A lo.length c1) ∧ wx.cell? ⟨w.heap.size, 1, none⟩ = some (.slice B hi.length c2) ∧ wx.cell? ⟨w.heap.size, 2, none⟩ = some (.int .i64 mn) ∧ wx.cell? ⟨w.heap.size, 3, none⟩ = some (.int .i64 mx) from fun wx h => by
    have hh := (h.block w.heap.size (by omega)).trans (heap_alloc_new w (.cells #[.slice A lo.length c1, .slice B hi.length c2, .int .i64 mn, .int .i64 mx] 24))
    refine ⟨?_, ?_, ?_, ?_⟩ <;> (simp only [World.cell?, hh]; rfl))
  have SZ := Lib.hid (show w.heap.size + 1 ≤ (w.alloc (.cells #[.slice A lo.length c1, .slice B hi.length c2, .int .i64 mn, .int .i64 mx] 24)).heap.size from by simp)
  generalize (w.alloc (.cells #[.slice A lo.length c1, .slice B hi.length c2, .int .i64 mn, .int .i64 mx] 24)) = u at *
  obtain ⟨a0, a1, a2, a3⟩ := FA.out u (Below.refl _ _)
  go_upto_region 3 with (go_at_call 4; refine (LT.out _ _ (heap_alloc_new u _)).mono ?_; rintro e y1 ⟨rfl, hb⟩; have B1 := Lib.hid ((BA.out.alloc BA.out.size _).trans (hb.mono (Nat.le_trans BA.out.size (by simp)))); have K1 := Lib.hid (((Below.refl _ u).alloc SZ.out _).trans (hb.mono (Nat.le_trans SZ.out (by simp)))); have Z1 := Lib.hid (show w.heap.size + 1 ≤ y1.heap.size from Nat.le_trans (Nat.le_trans SZ.out (by simp)) hb.size); clear a0 a1 a2 a3 hb LT)
  obtain ⟨a0, a1, a2, a3⟩ := FA.out _ K1.out
  go_upto_region 4 with (go_at_call 6; refine (TP.out _ B1.out).mono ?_; rintro e y2 ⟨rfl, hb⟩; have B2 := Lib.hid (B1.out.trans (hb.mono B1.out.size)); have K2 := Lib.hid (K1.out.trans (hb.mono Z1.out)); have Z2 := Lib.hid (Nat.le_trans Z1.out hb.size); clear a0 a1 a2 a3 hb TP)
  obtain ⟨a0, a1, a2, a3⟩ := FA.out _ K2.out
  go_upto_region 5 with (go_at_call 7; refine (TD.out _ B2.out).mono ?_; rintro e y3 ⟨rfl, hb⟩; have B3 := Lib.hid (B2.out.trans (hb.mono B2.out.size)); have K3 := Lib.hid (K2.out.trans (hb.mono Z2.out)); have Z3 := Lib.hid (Nat.le_trans Z2.out hb.size); clear a0 a1 a2 a3 hb TD)
  go_upto_region 6 with (go_at_call 8; refine (PP.out _ B3.out).mono ?_; rintro e y4 ⟨rfl, hb⟩; have B4 := Lib.hid (B3.out.trans (hb.mono B3.out.size)); have K4 := Lib.hid (K3.out.trans (hb.mono Z3.out)); have Z4 := Lib.hid (Nat.le_trans Z3.out hb.size); clear hb PP)
  have N4 := Lib.hid (show Below y4.heap.size y4 (y4.alloc (.cells #[.slice none 0 0, .slice none 0 0, .int .i64 0, .int .i64 0] 24)) from (Below.refl _ y4).alloc (Nat.le_refl _) _)
  have F4_ := Lib.hid (show F4 (y4.alloc (.cells #[.slice none 0 0, .slice none 0 0, .int .i64 0, .int .i64 0] 24)) y4.heap.size (.slice none 0 0) (.slice none 0 0) (.int .i64 0) (.int .i64 0) from heap_alloc_new y4 (.cells #[.slice none 0 0, .slice none 0 0, .int .i64 0, .int .i64 0] 24))
  replace B4 := Lib.hid (B4.out.trans (N4.out.mono B4.out.size))
  replace K4 := Lib.hid (K4.out.trans (N4.out.mono Z4.out))
  replace Z4 := Lib.hid (Nat.le_trans Z4.out N4.out.size)
  clear N4
  generalize (y4.alloc (.cells #[.slice none 0 0, .slice none 0 0, .int .i64 0, .int .i64 0] 24)) = v4 at *
  generalize y4.heap.size = g4 at *
  go_upto_region 7 with (go_at_call 9; refine (PD.out _ B4.out).mono ?_; rintro e y5 ⟨rfl, hb⟩; have B5 := Lib.hid (B4.out.trans (hb.mono B4.out.size)); have K5 := Lib.hid (K4.out.trans (hb.mono Z4.out)); have Z5 := Lib.hid (Nat.le_trans Z4.out hb.size); replace F4_ := Lib.hid (F4_.out.over hb); clear hb PD)
  have N5 := Lib.hid (show Below y5.heap.size y5 (y5.alloc (.cells #[.slice none 0 0, .slice none 0 0, .int .i64 0, .int .i64 0] 24)) from (Below.refl _ y5).alloc (Nat.le_refl _) _)
  have F5 := Lib.hid (show F4 (y5.alloc (.cells #[.slice none 0 0, .slice none 0 0, .int .i64 0, .int .i64 0] 24)) y5.heap.size (.slice none 0 0) (.slice none 0 0) (.int .i64 0) (.int .i64 0) from heap_alloc_new y5 (.cells #[.slice none 0 0, .slice none 0 0, .int .i64 0, .int .i64 0] 24))
  replace B5 := Lib.hid (B5.out.trans (N5.out.mono B5.out.size))
  replace K5 := Lib.hid (K5.out.trans (N5.out.mono Z5.out))
  replace Z5 := Lib.hid (Nat.le_trans Z5.out N5.out.size)
  replace F4_ := Lib.hid (F4_.out.over N5.out)
  clear N5
  generalize (y5.alloc (.cells #[.slice none 0 0, .slice none 0 0, .int .i64 0, .int .i64 0] 24)) = v5 at *
  generalize y5.heap.size = g5 at *
  obtain ⟨b0, b1, b2, b3, fb⟩ := F4_.out.facts
  clear fb
  go_upto_region 9 with (go_at_call 11; refine (ZT.out _).mono ?_; rintro e y6 ⟨rfl, hb⟩; have B6 := Lib.hid (B5.out.trans (hb.mono B5.out.size)); have K6 := Lib.hid (K5.out.trans (hb.mono Z5.out)); have Z6 := Lib.hid (Nat.le_trans Z5.out hb.size); clear b0 b1 b2 b3 hb ZT)
  go_upto_region 11 with (go_at_call 8; refine (PB.out _ B6.out).mono ?_; rintro e y7 ⟨⟨R, cc, U, cd, rfl, i1, i2⟩, hb⟩; have I7 := Lib.hid i1; have J7 := Lib.hid i2; have B7 := Lib.hid (B6.out.trans (hb.mono B6.out.size)); have K7 := Lib.hid (K6.out.trans (hb.mono Z6.out)); have Z7 := Lib.hid (Nat.le_trans Z6.out hb.size); clear i1 i2 hb PB)
  have N7 := Lib.hid (show Below y7.heap.size y7 (y7.alloc (.cells #[.slice R lo.length cc, .slice U hi.length cd, .int .i64 mn, .int .i64 mx] 24)) from (Below.refl _ y7).alloc (Nat.le_refl _) _)
  have F7 := Lib.hid (show F4 (y7.alloc (.cells #[.slice R lo.length cc, .slice U hi.length cd, .int .i64 mn, .int .i64 mx] 24)) y7.heap.size (.slice R lo.length cc) (.slice U hi.length cd) (.int .i64 mn) (.int .i64 mx) from heap_alloc_new y7 (.cells #[.slice R lo.length cc, .slice U hi.length cd, .int .i64 mn, .int .i64 mx] 24))
  replace B7 := Lib.hid (B7.out.trans (N7.out.mono B7.out.size))
  replace K7 := Lib.hid (K7.out.trans (N7.out.mono Z7.out))
  replace Z7 := Lib.hid (Nat.le_trans Z7.out N7.out.size)
  replace I7 := Lib.hid (I7.out.over N7.out)
  replace J7 := Lib.hid (J7.out.over N7.out)
  clear N7
  generalize (y7.alloc (.cells #[.slice R lo.length cc, .slice U hi.length cd, .int .i64 mn, .int .i64 mx] 24)) = v7 at *
  generalize y7.heap.size = g7 at *
  obtain ⟨b0, b1, b2, b3, fb⟩ := F7.out.facts
  obtain ⟨a0, a1, a2, a3⟩ := FA.out _ K7.out
  clear fb
  go_upto_region 13 with (go_at_call 10; refine (S2.out R U cc cd _ B7.out I7.out J7.out).mono ?_; rintro e y8 ⟨rfl, hb⟩; have B8 := Lib.hid (B7.out.trans (hb.mono B7.out.size)); have K8 := Lib.hid (K7.out.trans (hb.mono Z7.out)); have Z8 := Lib.hid (Nat.le_trans Z7.out hb.size); clear a0 a1 a2 a3 b0 b1 b2 b3 hb S2)
  go_wp2_with (go_at_call 5; refine (AW.out _ (B8.out)).mono ?_; rintro e yz ⟨rfl, hb⟩; have BZ := Lib.hid ((B8.out).trans (hb.mono (B8.out).size)); clear hb AW)
  go_ret
  exact ⟨rfl, BZ.out⟩
set_option maxRecDepth 100000 in
set_option maxHeartbeats 8000000 in
theorem FTx_nn (lo hi : List Int) (mn mx : Int) (A B : Option Addr) (c1 c2 : Nat) (l : List UInt8) (w : World) (ha : Ints w A lo) (hb : Ints w B hi) (hT : TabIn w) (hL : LibIn w) (hlb : lightB1 lo.length hi.length = true) (hl : l.length ≤ 2000) (hp : ¬ TxOk l (readLo l) (readHi l) (readMn l) (readMx l)) (hn : ¬ normF lo hi mn mx = true) :
    Calls Tryz.prog 3 #[.agg #[.slice A lo.length c1, .slice B hi.length c2, .int .i64 mn, .int .i64 mx], .string (st l)] w fun e w' => e = .returned (.bool true) ∧ Below w.heap.size w w' := by
  have AW := Lib.hid (fun w1 (h : Below w.heap.size w w1) => fawake_any w1 (hT.below h hT.lt))
  have LT := Lib.hid (fun b w1 h => light1_any lo.length hi.length A B c1 c2 mn mx b w1 h)
  rw [hlb] at LT
  have HA := Lib.hid ha
  have HB := Lib.hid hb
  have zs : ¬ (2000 : Int) < ((st l).size : Int) := by rw [st_size]; omega
  have TP := Lib.hid (fun w1 (h : Below w.heap.size w w1) => Text_p lo hi mn mx A B c1 c2 w1 (ha.over h) (hb.over h))
  have TD := Lib.hid (fun w1 (h : Below w.heap.size w w1) => Text_d lo hi mn mx A B c1 c2 w1 (ha.over h) (hb.over h))
  have PP := Lib.hid (fun w1 (h : Below w.heap.size w w1) => Parse_p l (by omega) w1 (hL.over h))
  have PD := Lib.hid (fun w1 (h : Below w.heap.size w w1) => Parse_d l (by omega) w1)
  unfold ParseOut ParseRes at PP PD
  have pp : ¬ ((txT (readLo l) (readHi l) (readMn l) (readMx l)).2 = 0 ∧ (txT (readLo l) (readHi l) (readMn l) (readMx l)).1 = st l) := hp
  simp only [if_neg pp] at PP PD
  clear pp
  have ZT := Lib.hid zero_true
  rw [show txT lo hi mn mx = (⟨#[]⟩, 2) from if_neg hn] at TP TD
  clear ha hb hT hL hlb hl hp hn
  go_enter Tryz.func3, Tryz.ntmps3
  go_upto_region 1 with fail
  have BA := Lib.hid (show Below w.heap.size w (w.alloc (.cells #[.slice A lo.length c1, .slice B hi.length c2, .int .i64 mn, .int .i64 mx] 24)) from (Below.refl _ w).alloc (Nat.le_refl _) _)
  have FA := Lib.hid (show ∀ wx : World, Below (w.heap.size + 1) (w.alloc (.cells #[.slice A lo.length c1, .slice B hi.length c2, .int .i64 mn, .int .i64 mx] 24)) wx → wx.cell? ⟨w.heap.size, 0, none⟩ = some (.slice A lo.length c1) ∧ wx.cell? ⟨w.heap.size, 1, none⟩ = some (.slice B hi.length c2) ∧ wx.cell? ⟨w.heap.size, 2, none⟩ = some (.int .i64 mn) ∧ wx.cell? ⟨w.heap.size, 3, none⟩ = some (.int .i64 mx) from fun wx h => by
    have hh := (h.block w.heap.size (by omega)).trans (heap_alloc_new w (.cells #[.slice A lo.length c1, .slice B hi.length c2, .int .i64 mn, .int .i64 mx] 24))
    refine ⟨?_, ?_, ?_, ?_⟩ <;> (simp only [World.cell?, hh]; rfl))
  have SZ := Lib.hid (show w.heap.size + 1 ≤ (w.alloc (.cells #[.slice A lo.length c1, .slice B hi.length c2, .int .i64 mn, .int .i64 mx] 24)).heap.size from by simp)
  generalize (w.alloc (.cells #[.slice A lo.length c1, .slice B hi.length c2, .int .i64 mn, .int .i64 mx] 24)) = u at *
  obtain ⟨a0, a1, a2, a3⟩ := FA.out u (Below.refl _ _)
  go_upto_region 3 with (go_at_call 4; refine (LT.out _ _ (heap_alloc_new u _)).mono ?_; rintro e y1 ⟨rfl, hb⟩; have B1 := Lib.hid ((BA.out.alloc BA.out.size _).trans (hb.mono (Nat.le_trans BA.out.size (by simp)))); have K1 := Lib.hid (((Below.refl _ u).alloc SZ.out _).trans (hb.mono (Nat.le_trans SZ.out (by simp)))); have Z1 := Lib.hid (show w.heap.size + 1 ≤ y1.heap.size from Nat.le_trans (Nat.le_trans SZ.out (by simp)) hb.size); clear a0 a1 a2 a3 hb LT)
  obtain ⟨a0, a1, a2, a3⟩ := FA.out _ K1.out
  go_upto_region 4 with (go_at_call 6; refine (TP.out _ B1.out).mono ?_; rintro e y2 ⟨rfl, hb⟩; have B2 := Lib.hid (B1.out.trans (hb.mono B1.out.size)); have K2 := Lib.hid (K1.out.trans (hb.mono Z1.out)); have Z2 := Lib.hid (Nat.le_trans Z1.out hb.size); clear a0 a1 a2 a3 hb TP)
  obtain ⟨a0, a1, a2, a3⟩ := FA.out _ K2.out
  go_upto_region 5 with (go_at_call 7; refine (TD.out _ B2.out).mono ?_; rintro e y3 ⟨rfl, hb⟩; have B3 := Lib.hid (B2.out.trans (hb.mono B2.out.size)); have K3 := Lib.hid (K2.out.trans (hb.mono Z2.out)); have Z3 := Lib.hid (Nat.le_trans Z2.out hb.size); clear a0 a1 a2 a3 hb TD)
  go_upto_region 6 with (go_at_call 8; refine (PP.out _ B3.out).mono ?_; rintro e y4 ⟨rfl, hb⟩; have B4 := Lib.hid (B3.out.trans (hb.mono B3.out.size)); have K4 := Lib.hid (K3.out.trans (hb.mono Z3.out)); have Z4 := Lib.hid (Nat.le_trans Z3.out hb.size); clear hb PP)
  have N4 := Lib.hid (show Below y4.heap.size y4 (y4.alloc (.cells #[.slice none 0 0, .slice none 0 0, .int .i64 0, .int .i64 0] 24)) from (Below.refl _ y4).alloc (Nat.le_refl _) _)
  have F4_ := Lib.hid (show F4 (y4.alloc (.cells #[.slice none 0 0, .slice none 0 0, .int .i64 0, .int .i64 0] 24)) y4.heap.size (.slice none 0 0) (.slice none 0 0) (.int .i64 0) (.int .i64 0) from heap_alloc_new y4 (.cells #[.slice none 0 0, .slice none 0 0, .int .i64 0, .int .i64 0] 24))
  replace B4 := Lib.hid (B4.out.trans (N4.out.mono B4.out.size))
  replace K4 := Lib.hid (K4.out.trans (N4.out.mono Z4.out))
  replace Z4 := Lib.hid (Nat.le_trans Z4.out N4.out.size)
  clear N4
  generalize (y4.alloc (.cells #[.slice none 0 0, .slice none 0 0, .int .i64 0, .int .i64 0] 24)) = v4 at *
  generalize y4.heap.size = g4 at *
  go_upto_region 7 with (go_at_call 9; refine (PD.out _ B4.out).mono ?_; rintro e y5 ⟨rfl, hb⟩; have B5 := Lib.hid (B4.out.trans (hb.mono B4.out.size)); have K5 := Lib.hid (K4.out.trans (hb.mono Z4.out)); have Z5 := Lib.hid (Nat.le_trans Z4.out hb.size); replace F4_ := Lib.hid (F4_.out.over hb); clear hb PD)
  have N5 := Lib.hid (show Below y5.heap.size y5 (y5.alloc (.cells #[.slice none 0 0, .slice none 0 0, .int .i64 0, .int .i64 0] 24)) from (Below.refl _ y5).alloc (Nat.le_refl _) _)
  have F5 := Lib.hid (show F4 (y5.alloc (.cells #[.slice none 0 0, .slice none 0 0, .int .i64 0, .int .i64 0] 24)) y5.heap.size (.slice none 0 0) (.slice none 0 0) (.int .i64 0) (.int .i64 0) from heap_alloc_new y5 (.cells #[.slice none 0 0, .slice none 0 0, .int .i64 0, .int .i64 0] 24))
  replace B5 := Lib.hid (B5.out.trans (N5.out.mono B5.out.size))
  replace K5 := Lib.hid (K5.out.trans (N5.out.mono Z5.out))
  replace Z5 := Lib.hid (Nat.le_trans Z5.out N5.out.size)
  replace F4_ := Lib.hid (F4_.out.over N5.out)
  clear N5
  generalize (y5.alloc (.cells #[.slice none 0 0, .slice none 0 0, .int .i64 0, .int .i64 0] 24)) = v5 at *
  generalize y5.heap.size = g5 at *
  obtain ⟨b0, b1, b2, b3, fb⟩ := F4_.out.facts
  clear fb
  go_upto_region 9 with (go_at_call 11; refine (ZT.out _).mono ?_; rintro e y6 ⟨rfl, hb⟩; have B6 := Lib.hid (B5.out.trans (hb.mono B5.out.size)); have K6 := Lib.hid (K5.out.trans (hb.mono Z5.out)); have Z6 := Lib.hid (Nat.le_trans Z5.out hb.size); clear b0 b1 b2 b3 hb ZT)
  go_upto_region 13 with fail
  go_wp2_with (go_at_call 5; refine (AW.out _ (B6.out)).mono ?_; rintro e yz ⟨rfl, hb⟩; have BZ := Lib.hid ((B6.out).trans (hb.mono (B6.out).size)); clear hb AW)
  go_ret
  exact ⟨rfl, BZ.out⟩
theorem FamilyTexts_any (lo hi : List Int) (mn mx : Int) (A B : Option Addr) (c1 c2 : Nat) (s : ByteArray) (w : World) (ha : lightB1 lo.length hi.length = true → Ints w A lo) (hb : lightB1 lo.length hi.length = true → Ints w B hi) (hT : TabIn w) (hL : LibIn w) :
    Calls Tryz.prog 3 #[.agg #[.slice A lo.length c1, .slice B hi.length c2, .int .i64 mn, .int .i64 mx], .string s] w fun e w' => e = .returned (.bool true) ∧ Below w.heap.size w w' := by
  cases hlb : lightB1 lo.length hi.length with
  | false => exact FTx_heavy lo hi mn mx A B c1 c2 s w hT hlb
  | true =>
    replace ha := ha hlb
    replace hb := hb hlb
    by_cases hs : (2000 : Int) < (s.size : Int)
    · exact FTx_long lo hi mn mx A B c1 c2 s w ha hb hT hlb hs
    · have es : s = st s.data.toList := bytes_eq (by rw [st_data])
      have hl : s.data.toList.length ≤ 2000 := by
        have : (st s.data.toList).size = s.data.toList.length := st_size _
        rw [← es] at this
        omega
      generalize s.data.toList = l at *
      subst es
      by_cases hp : TxOk l (readLo l) (readHi l) (readMn l) (readMx l)
      · by_cases hn : normF lo hi mn mx = true
        · exact FTx_yy lo hi mn mx A B c1 c2 l w ha hb hT hL hlb hl hp hn
        · exact FTx_yn lo hi mn mx A B c1 c2 l w ha hb hT hL hlb hl hp hn
      · by_cases hn : normF lo hi mn mx = true
        · exact FTx_ny lo hi mn mx A B c1 c2 l w ha hb hT hL hlb hl hp hn
        · exact FTx_nn lo hi mn mx A B c1 c2 l w ha hb hT hL hlb hl hp hn
end Go.Proofs.YtcbjkclajkjicaaGreatDoor
