/-
  Parse of both sides is one; the law's own tests of a family.
-/
import Derived.Test.YtcbjkclajkjicaaGreatDoorTxT
import Derived.Test.YtcbjkclajkjicaaGreatDoorTxI
namespace Go.Proofs.YtcbjkclajkjicaaGreatDoor
set_option linter.unusedSimpArgs false
set_option linter.unusedVariables false
open Go Go.RowKit Go.Lib Go.Ev

/-- what Parse asks of what it has read -/
def TxOk (s : List UInt8) (lo hi : List Int) (mn mx : Int) : Prop := (txT lo hi mn mx).2 = 0 ∧ (txT lo hi mn mx).1 = st s
theorem txT_ok {lo hi : List Int} {mn mx : Int} (h : normF lo hi mn mx = true) : txT lo hi mn mx = (famL lo hi mn.toNat mx.toNat, 0) := if_pos h
theorem txOk_norm {s : List UInt8} {lo hi : List Int} {mn mx : Int} (h : TxOk s lo hi mn mx) : normF lo hi mn mx = true := by
  by_cases hn : normF lo hi mn mx = true
  · exact hn
  · have := h.1
    unfold txT at this
    rw [if_neg hn] at this
    exact absurd this (by simp)
theorem txOk_text {s : List UInt8} {lo hi : List Int} {mn mx : Int} (h : TxOk s lo hi mn mx) : InRange lo hi mn mx ∧ s = famT lo hi mn.toNat mx.toNat := by
  have hn := txOk_norm h
  refine ⟨valid_range (normF_valid hn), ?_⟩
  have := h.2
  rw [txT_ok hn] at this
  have h2 : famL lo hi mn.toNat mx.toNat = st s := this
  rw [famL_eq] at h2
  exact (st_inj.1 h2).symm
theorem back_doc {s : List UInt8} {lo hi : List Int} {mn mx : Int} (h : InRange lo hi mn mx) (e : s = famT lo hi mn.toNat mx.toNat) : readLo s = lo ∧ readHi s = hi ∧ readMn s = mn ∧ readMx s = mx := by
  obtain ⟨x1, x2, m1, m2, l1, l2⟩ := h
  have := read_back (mn := mn.toNat) (mx := mx.toNat) l1 l2 x1 x2 (by omega) (by omega)
  rw [e]
  exact ⟨this.1, this.2.1, by rw [this.2.2.1]; omega, by rw [this.2.2.2]; omega⟩
theorem back_prog {s : List UInt8} {lo hi : List Int} {mn mx : Int} (h : InRange lo hi mn mx) (e : s = famT lo hi mn.toNat mx.toNat) : pLo s = lo ∧ pHi s = hi ∧ pMn s = mn ∧ pMx s = mx := by
  obtain ⟨x1, x2, m1, m2, l1, l2⟩ := h
  have := read_prog (mn := mn.toNat) (mx := mx.toNat) x1 x2 (by omega) (by omega)
  rw [e]
  exact ⟨this.1, this.2.1, by rw [this.2.2.1]; omega, by rw [this.2.2.2]; omega⟩
theorem both_read (s : List UInt8) : (TxOk s (pLo s) (pHi s) (pMn s) (pMx s) ↔ TxOk s (readLo s) (readHi s) (readMn s) (readMx s)) ∧
    (TxOk s (readLo s) (readHi s) (readMn s) (readMx s) → pLo s = readLo s ∧ pHi s = readHi s ∧ pMn s = readMn s ∧ pMx s = readMx s) := by
  have k : TxOk s (readLo s) (readHi s) (readMn s) (readMx s) → pLo s = readLo s ∧ pHi s = readHi s ∧ pMn s = readMn s ∧ pMx s = readMx s := fun h => by
    obtain ⟨r, e⟩ := txOk_text h
    exact back_prog r e
  refine ⟨⟨fun h => ?_, fun h => ?_⟩, k⟩
  · obtain ⟨r, e⟩ := txOk_text h
    obtain ⟨e1, e2, e3, e4⟩ := back_doc r e
    rw [e1, e2, e3, e4]
    exact h
  · obtain ⟨e1, e2, e3, e4⟩ := k h
    rw [e1, e2, e3, e4]
    exact h
/-- what Parse answers, of both sides -/
def ParseOut (s : List UInt8) (w : World) (e : Ending) (w' : World) : Prop := ParseRes s (txT (readLo s) (readHi s) (readMn s) (readMx s)) w e w'
theorem Parse_d (s : List UInt8) (h1 : s.length ≤ 1000000) (w : World) : Calls Tryz.prog 9 #[.string (st s)] w (ParseOut s w) :=
  ParseD_any s h1 txT w (fun lo hi mn mx A B c1 c2 w1 ha hb => Text_d lo hi mn mx A B c1 c2 w1 ha hb)
theorem Parse_p (s : List UInt8) (h1 : s.length ≤ 1000000) (w : World) (hL : LibIn w) : Calls Tryz.prog 8 #[.string (st s)] w (ParseOut s w) := by
  refine (ParseP_any s h1 (pLo s) (pHi s) (pMn s) (pMx s) (txT (pLo s) (pHi s) (pMn s) (pMx s)) w (fun w1 h => read_any s h1 w1 (hL.over h)) (fun A B ca cb w1 ha hb => Text_p (pLo s) (pHi s) (pMn s) (pMx s) A B ca cb w1 ha hb)).mono ?_
  intro e w' h
  obtain ⟨hi, hk⟩ := both_read s
  unfold TxOk at hi hk
  unfold ParseOut ParseRes
  unfold ParsePRes at h
  by_cases ho : (txT (pLo s) (pHi s) (pMn s) (pMx s)).2 = 0 ∧ (txT (pLo s) (pHi s) (pMn s) (pMx s)).1 = st s
  · rw [if_pos ho] at h
    rw [if_pos (hi.1 ho)]
    obtain ⟨e1, e2, e3, e4⟩ := hk (hi.1 ho)
    rw [e1, e2, e3, e4] at h
    exact h
  · rw [if_neg ho] at h
    rw [if_neg fun x => ho (hi.2 x)]
    exact h
theorem zero_true (w : World) : Calls Tryz.prog 11 #[.agg #[.slice none 0 0, .slice none 0 0, .int .i64 0, .int .i64 0]] w fun e w' => e = .returned (.bool true) ∧ Below w.heap.size w w' := by
  have BA := Lib.hid (show Below w.heap.size w (w.alloc (.cells #[.slice none 0 0, .slice none 0 0, .int .i64 0, .int .i64 0] 24)) from (Below.refl _ w).alloc (Nat.le_refl _) _)
  go_enter Tryz.func11, Tryz.ntmps11
  go_wp2_with fail
  go_ret
  exact ⟨rfl, BA.out⟩
def lightB1 (n1 n2 : Nat) : Bool := decide (n1 ≤ 100) && decide (n2 ≤ 100)
set_option maxRecDepth 100000 in
set_option maxHeartbeats 8000000 in
theorem light1_any (n1 n2 : Nat) (A B : Option Addr) (c1 c2 : Nat) (mn mx : Int) (b : Nat) (w : World)
    (hb : w.heap[b]? = some (.cells #[.slice A n1 c1, .slice B n2 c2, .int .i64 mn, .int .i64 mx] 24 (0, 0))) :
    Calls Tryz.prog 4 #[.slice (some ⟨b, 0, none⟩) 1 1] w fun e w' => e = .returned (.bool (lightB1 n1 n2)) ∧ Below w.heap.size w w' := by
  have hbl : b < w.heap.size := (Array.getElem?_eq_some_iff.1 hb).1
  have BX := Lib.hid (show ∀ wx : World, Below w.heap.size w wx → wx.cell? ⟨b, 0, none⟩ = some (.slice A n1 c1) ∧ wx.cell? ⟨b, 1, none⟩ = some (.slice B n2 c2) ∧ wx.cell? ⟨b, 2, none⟩ = some (.int .i64 mn) ∧ wx.cell? ⟨b, 3, none⟩ = some (.int .i64 mx) from fun wx h => by
    have hh := (h.block b hbl).trans hb
    refine ⟨?_, ?_, ?_, ?_⟩ <;> (simp only [World.cell?, hh]; rfl))
  clear hb
  go_enter Tryz.func4, Tryz.ntmps4
  go_wp2_with fail
  go_loopw [4, 7] (fun _ i wr => ((i = .int .i64 0) ∨ (i = .int .i64 1 ∧ n1 ≤ 100 ∧ n2 ≤ 100)) ∧ Below w.heap.size w wr) (fun _ i _ => 1 - (intOf i).toNat)
  case atStart => exact ⟨Or.inl rfl, Below.refl _ _⟩
  case round =>
    obtain ⟨hi, hbw⟩ := hrel
    obtain ⟨x0, x1, x2, x3⟩ := BX.out _ hbw
    have BW := Lib.hid hbw
    clear hbw
    rcases hi with rfl | ⟨rfl, p1, p2⟩
    · by_cases a1 : (100 : Int) < (n1 : Int)
      · have E := Lib.hid (show lightB1 n1 n2 = false from by unfold lightB1; rw [decide_eq_false (show ¬ n1 ≤ 100 by omega)]; simp)
        have BA := Lib.hid (BW.out.trans (((Below.refl _ wr).alloc (Nat.le_refl _) (.cells #[.slice A n1 c1, .slice B n2 c2, .int .i64 mn, .int .i64 mx] 24)).mono BW.out.size))
        go_wp2_with fail
        go_ret
        exact ⟨by rw [E.out]; rfl, BA.out⟩
      · by_cases a2 : (100 : Int) < (n2 : Int)
        · have E := Lib.hid (show lightB1 n1 n2 = false from by unfold lightB1; rw [decide_eq_false (show ¬ n2 ≤ 100 by omega)]; simp)
          have BA := Lib.hid (BW.out.trans (((Below.refl _ wr).alloc (Nat.le_refl _) (.cells #[.slice A n1 c1, .slice B n2 c2, .int .i64 mn, .int .i64 mx] 24)).mono BW.out.size))
          go_wp2_with fail
          go_ret
          exact ⟨by rw [E.out]; rfl, BA.out⟩
        · have BA := Lib.hid (BW.out.trans (((Below.refl _ wr).alloc (Nat.le_refl _) (.cells #[.slice A n1 c1, .slice B n2 c2, .int .i64 mn, .int .i64 mx] 24)).mono BW.out.size))
          go_wp2_with fail
          go_roundw
          case rel => exact ⟨Or.inr ⟨rfl, by omega, by omega⟩, BA.out⟩
          case measure => simp [intOf]
    · have E := Lib.hid (show lightB1 n1 n2 = true from by unfold lightB1; rw [decide_eq_true p1, decide_eq_true p2]; rfl)
      go_wp2_with fail
      go_ret
      exact ⟨by rw [E.out]; rfl, BW.out⟩
end Go.Proofs.YtcbjkclajkjicaaGreatDoor
