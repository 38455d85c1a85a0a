/-
  Whether a propagator is valid: the program's own answer.
-/
import Derived.Test.YtpejolnjnkcolaaDoorHpE
import Derived.RangeFuncRecord
namespace Go.Proofs.YtpejolnjnkcolaaDoor
open Go Go.RowKit Go.Ev

def apartB (vs cs : List Int) : Bool := decide (vs.length = 2 ∧ cs.length = 2 ∧ 0 ≤ nthI cs 0 ∧ 0 ≤ nthI cs 1)
set_option maxRecDepth 100000 in
set_option maxHeartbeats 4000000 in
theorem fits_apart (x : ByteArray) (vs cs : List Int) (n : Int) (A B : Option Addr) (c1 c2 : Nat) (w : World) (hx : x.toList = [97, 112, 97, 114, 116]) (hb : Ints w B cs) :
    Calls Tryd.prog 59 #[.agg #[.string x, .slice A vs.length c1, .slice B cs.length c2, .int .i64 n]] w fun e w' => e = .returned (.bool (apartB vs cs)) ∧ Below w.heap.size w w' := by
  have k_sum : (x.toList == [115, 117, 109]) = false := by rw [hx]; rfl
  have k_most : (x.toList == [109, 111, 115, 116]) = false := by rw [hx]; rfl
  have k_distinct : (x.toList == [100, 105, 115, 116, 105, 110, 99, 116]) = false := by rw [hx]; rfl
  have k_unlike : (x.toList == [117, 110, 108, 105, 107, 101]) = false := by rw [hx]; rfl
  have k_product : (x.toList == [112, 114, 111, 100, 117, 99, 116]) = false := by rw [hx]; rfl
  have k_max : (x.toList == [109, 97, 120]) = false := by rw [hx]; rfl
  have k_reify : (x.toList == [114, 101, 105, 102, 121]) = false := by rw [hx]; rfl
  have k_element : (x.toList == [101, 108, 101, 109, 101, 110, 116]) = false := by rw [hx]; rfl
  have k_apart : (x.toList == [97, 112, 97, 114, 116]) = true := by rw [hx]; rfl
  clear hx
  have B0 := Lib.hid (show ∀ o, Below w.heap.size w (w.alloc o) from fun o => (Below.refl _ _).alloc (Nat.le_refl _) _)
  obtain ⟨R, hR⟩ : ∃ R, apartB vs cs = R := ⟨_, rfl⟩
  rw [hR]
  have HR := Lib.hid hR
  clear hR
  by_cases h1 : vs.length = 2
  · by_cases h2 : cs.length = 2
    · obtain ⟨a, b, rfl⟩ := two h2
      obtain ⟨b1, o1, rfl, hb1, f1⟩ := hb.2.2 (by omega)
      have y0 := f1 0 (by omega)
      have y1 := f1 1 (by omega)
      have ra := hb.2.1 a (by simp)
      have rb := hb.2.1 b (by simp)
      have e : R = decide (0 ≤ min a b) := by
        rw [← HR.out]
        unfold apartB nthI
        exact decide_eq_decide.2 (by simp [h1]; omega)
      have x0 : (w.alloc (.cells #[.string x, .slice A vs.length c1, .slice (some ⟨b1, o1, none⟩) 2 c2, .int .i64 n] 37)).cell? ⟨b1, o1, none⟩ = some (.int .i64 a) := ((B0.out _).cell (p := ⟨b1, o1, none⟩) hb1).trans (by simpa using y0)
      have x1 : (w.alloc (.cells #[.string x, .slice A vs.length c1, .slice (some ⟨b1, o1, none⟩) 2 c2, .int .i64 n] 37)).cell? ⟨b1, o1 + 1, none⟩ = some (.int .i64 b) := ((B0.out _).cell (p := ⟨b1, o1 + 1, none⟩) hb1).trans (by simpa using y1)
      rw [e]
      simp only [h1, List.length_cons, List.length_nil] at x0 x1 ⊢
      clear f1 hb h2 e HR y0 y1
      go_enter Tryd.func59, Tryd.ntmps59
      go_wp2_with fail
      go_quiet (fail)
      go_wp2_with fail
      obtain ⟨W, hW⟩ : ∃ W : World, W = (w.alloc (.cells #[.string x, .slice A 2 c1, .slice (some ⟨b1, o1, none⟩) 2 c2, .int .i64 n] 37)).drewN nq := ⟨_, rfl⟩
      rw [← hW]
      have g2 : W.cell? ⟨w.heap.size, 2, none⟩ = some (.slice (some ⟨b1, o1, none⟩) 2 c2) := by rw [hW]; simp [go_sem]
      have y0 : W.cell? ⟨b1, o1, none⟩ = some (.int .i64 a) := by rw [hW]; exact x0
      have y1 : W.cell? ⟨b1, o1 + 1, none⟩ = some (.int .i64 b) := by rw [hW]; exact x1
      have HBW := Lib.hid (show Below w.heap.size w W by rw [hW]; exact below_drewN (B0.out _) _)
      clear hW x0 x1 B0 ra rb
      rcases Int.le_total a b with hab | hab
      · go_quiet (fail)
        all_goals go_wp2_with fail
        all_goals (go_ret; exact ⟨by first | rfl | (show Ending.returned (.bool _) = _; congr 2; exact decide_eq_decide.2 (by omega)), below_drewN HBW.out _⟩)
      · go_quiet (fail)
        all_goals go_wp2_with fail
        all_goals (go_ret; exact ⟨by first | rfl | (show Ending.returned (.bool _) = _; congr 2; exact decide_eq_decide.2 (by omega)), below_drewN HBW.out _⟩)
    · have e : R = false := by
        rw [← HR.out]; unfold apartB; exact decide_eq_false (by omega)
      have h3 : ((cs.length : Int) == 2) = false := by simp; omega
      rw [e, h1]
      clear HR hb
      go_enter Tryd.func59, Tryd.ntmps59
      go_wp2_with fail
      go_quiet (fail)
      go_wp2_with fail
      go_quiet (fail)
      go_wp2_with fail
      go_ret
      exact ⟨rfl, below_drewN (below_drewN (B0.out _) _) _⟩
  · have e : R = false := by
      rw [← HR.out]; unfold apartB; exact decide_eq_false (by omega)
    have h3 : ((vs.length : Int) == 2) = false := by simp; omega
    rw [e]
    clear HR hb
    go_enter Tryd.func59, Tryd.ntmps59
    go_wp2_with fail
    go_quiet (fail)
    go_wp2_with fail
    go_quiet (fail)
    go_wp2_with fail
    go_ret
    exact ⟨rfl, below_drewN (below_drewN (B0.out _) _) _⟩

/-! ### valid -/
theorem pl_all {vs : List Int} {N : Int} : vs.all (inB N) = vs.all (fun v => decide (0 ≤ v ∧ v < N)) := rfl
set_option maxRecDepth 100000 in
set_option maxHeartbeats 2000000 in
/-- valid, if what its kind asks is known -/
theorem valid_any (P : Value) (vs cs : List Int) (n N : Int) (x : ByteArray) (A B : Option Addr) (c1 c2 : Nat) (w : World) (f : Bool) (hP : P = .agg #[.string x, .slice A vs.length c1, .slice B cs.length c2, .int .i64 n]) (ha : Ints w A vs) (hb : Ints w B cs)
    (hf : ∀ w', Below w.heap.size w w' → Calls Tryd.prog 59 #[P] w' fun e w2 => e = .returned (.bool f) ∧ Below w'.heap.size w' w2) :
    Calls Tryd.prog 41 #[P, .int .i64 N] w fun e w' => e = .returned (.bool (decide (N ≤ 40) && f && vs.all (inB N) && cs.all coefB)) ∧ Below w.heap.size w w' := by
  subst hP
  have HF := Lib.hid hf
  have HV := Lib.hid (fun w' (h : Below w.heap.size w w') nb (hc : w'.cell? ⟨nb, 0, none⟩ = some (.int .i64 N)) (hl : nb < w'.heap.size) => all_range vs A c1 N nb w' (ha.over h) hc hl)
  have HC := Lib.hid (fun w' (h : Below w.heap.size w w') => all_coef cs B c2 w' (hb.over h))
  have B0 := Lib.hid (show ∀ o, Below w.heap.size w (w.alloc o) from fun o => (Below.refl _ _).alloc (Nat.le_refl _) _)
  clear ha hb hf
  generalize vs.all (inB N) = r1 at *
  generalize cs.all coefB = r2 at *
  by_cases h40 : N ≤ 40
  · rw [decide_eq_true h40, Bool.true_and]
    go_enter Tryd.func41, Tryd.ntmps41
    go_wp2_with fail
    have hB2 : Below w.heap.size w ((w.alloc (.cells #[.string x, .slice A vs.length c1, .slice B cs.length c2, .int .i64 n] 37)).alloc (.cells #[.int .i64 N] 3)) := (B0.out _).alloc (by simp) _
    refine (HF.out _ hB2).mono ?_
    rintro e w1 ⟨rfl, hb1⟩
    have p0 : w1.heap[w.heap.size]? = some (.cells #[.string x, .slice A vs.length c1, .slice B cs.length c2, .int .i64 n] 37 (0, 0)) :=
      (hb1.block _ (by simp; omega)).trans ((Below.heap_alloc _ _ _ (by simp)).trans (by show (w.heap.push _)[w.heap.size]? = _; simp))
    have p1 : w1.heap[w.heap.size + 1]? = some (.cells #[.int .i64 N] 3 (0, 0)) := by
      refine (hb1.block _ (by simp)).trans ?_
      have := World.alloc_heap_new (w.alloc (.cells #[.string x, .slice A vs.length c1, .slice B cs.length c2, .int .i64 n] 37)) (.cells #[.int .i64 N] 3)
      rw [World.size_alloc] at this
      exact this
    have hB3 : Below w.heap.size w w1 := hB2.trans (hb1.mono (by simp; omega))
    have hs1 := lt_of_block p1
    have d1 : w1.cell? ⟨w.heap.size, 1, none⟩ = some (.slice A vs.length c1) := by simp [World.cell?, p0]
    have d2 : w1.cell? ⟨w.heap.size, 2, none⟩ = some (.slice B cs.length c2) := by simp [World.cell?, p0]
    have d3 : w1.cell? ⟨w.heap.size + 1, 0, none⟩ = some (.int .i64 N) := by simp [World.cell?, p1]
    have HX := Lib.hid (And.intro hB3 hs1)
    have HP0 := Lib.hid p0
    have HV2 := Lib.hid (HV.out w1 hB3 (w.heap.size + 1) d3 hs1)
    clear hb1 hB2 hB3 p0 p1 hs1 HF HV
    cases f with
    | false =>
      go_wp2_with fail
      go_ret
      exact ⟨rfl, HX.out.1⟩
    | true =>
      go_wp2_with fail
      refine HV2.out.mono ?_
      rintro e w2 ⟨rfl, hb2⟩
      have q2 : w2.cell? ⟨w.heap.size, 2, none⟩ = some (.slice B cs.length c2) := (hb2.cell (p := ⟨w.heap.size, 2, none⟩) (by have := HX.out.2; show w.heap.size < _; omega)).trans d2
      have hB4 : Below w.heap.size w w2 := HX.out.1.trans (hb2.mono HX.out.1.size)
      have HC2 := Lib.hid (HC.out w2 hB4)
      have HY := Lib.hid hB4
      clear hb2 HV2 HC d1 d2 d3 hB4
      cases r1 with
      | false =>
        go_wp2_with fail
        go_ret
        exact ⟨rfl, HY.out⟩
      | true =>
        go_wp2_with fail
        refine HC2.out.mono ?_
        rintro e w3 ⟨rfl, hb3⟩
        have HZ := Lib.hid (HY.out.trans (hb3.mono HY.out.size))
        clear hb3 HC2
        go_wp2_with fail
        go_ret
        exact ⟨rfl, HZ.out⟩
  · rw [decide_eq_false h40, Bool.false_and, Bool.false_and, Bool.false_and]
    have h41 : 40 < N := by omega
    clear h40
    go_enter Tryd.func41, Tryd.ntmps41
    go_wp2_with fail
    go_ret
    exact ⟨rfl, (B0.out _).alloc (by simp) _⟩
end Go.Proofs.YtpejolnjnkcolaaDoor
