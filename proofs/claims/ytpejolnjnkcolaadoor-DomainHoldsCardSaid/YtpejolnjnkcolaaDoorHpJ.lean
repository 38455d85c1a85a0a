/-
  Whether a propagator holds: the program's own answer, whole.
-/
import Derived.Test.YtpejolnjnkcolaaDoorHpH
import Derived.Test.YtpejolnjnkcolaaDoorHpI
import Derived.Test.YtpejolnjnkcolaaDoorDmG
namespace Go.Proofs.YtpejolnjnkcolaaDoor
open Go Go.RowKit Go.Ev

set_option maxRecDepth 100000 in
set_option maxHeartbeats 2000000 in
theorem Holds_of (P V : Value) (len : Nat) (x : ByteArray) (A B D : Option Addr) (l1 l2 c1 c2 c3 : Nat) (n : Int) (w : World) (vp hd : Bool) (hP : P = .agg #[.string x, .slice A l1 c1, .slice B l2 c2, .int .i64 n]) (hV : V = .slice D len c3)
    (h1 : ∀ w', Below w.heap.size w w' → Calls Tryd.prog 41 #[P, .int .i64 len] w' fun e w2 => e = .returned (.bool vp) ∧ Below w'.heap.size w' w2)
    (h2 : vp = true → ∀ w', Below w.heap.size w w' → Calls Tryd.prog 42 #[P, V] w' fun e w2 => e = .returned (.bool hd) ∧ Below w'.heap.size w' w2) :
    Calls Tryd.prog 25 #[P, V] w fun e w' => e = .returned (.bool (vp && hd)) ∧ Below w.heap.size w w' := by
  subst hP hV
  have H1 := Lib.hid h1
  have B0 := Lib.hid (show ∀ o, Below w.heap.size w (w.alloc o) from fun o => (Below.refl _ _).alloc (Nat.le_refl _) _)
  clear h1
  go_enter Tryd.func25, Tryd.ntmps25
  go_wp2_with fail
  refine (H1.out _ (B0.out _)).mono ?_
  rintro e w1 ⟨rfl, hb1⟩
  have p0 : w1.heap[w.heap.size]? = some (.cells #[.string x, .slice A l1 c1, .slice B l2 c2, .int .i64 n] 37 (0, 0)) := (hb1.block _ (by simp)).trans (World.alloc_heap_new w _)
  have hB1 := Lib.hid ((B0.out (.cells #[.string x, .slice A l1 c1, .slice B l2 c2, .int .i64 n] 37)).trans (hb1.mono (by simp)))
  have d0 : w1.cell? ⟨w.heap.size, 0, none⟩ = some (.string x) := by simp [World.cell?, p0]
  have d1 : w1.cell? ⟨w.heap.size, 1, none⟩ = some (.slice A l1 c1) := by simp [World.cell?, p0]
  have d2 : w1.cell? ⟨w.heap.size, 2, none⟩ = some (.slice B l2 c2) := by simp [World.cell?, p0]
  have d3 : w1.cell? ⟨w.heap.size, 3, none⟩ = some (.int .i64 n) := by simp [World.cell?, p0]
  clear hb1 p0 H1
  cases vp with
  | false =>
    clear h2
    go_wp2_with fail
    go_ret
    exact ⟨rfl, hB1.out⟩
  | true =>
    have H2 := Lib.hid (h2 rfl w1 hB1.out)
    clear h2
    go_wp2_with fail
    refine H2.out.mono ?_
    rintro e w2 ⟨rfl, hb2⟩
    have hB2 := Lib.hid (hB1.out.trans (hb2.mono hB1.out.size))
    clear hb2 H2
    go_wp2_with fail
    go_ret
    exact ⟨rfl, hB2.out⟩
theorem apart_nonneg {cs : List Int} (h2 : cs.length = 2) (h3 : 0 ≤ nthI cs 0) (h4 : 0 ≤ nthI cs 1) : ∀ c ∈ cs, ¬ c < 0 := by
  obtain ⟨a, b, rfl⟩ := two h2
  intro c hc
  simp at hc
  have e1 : nthI [a, b] 0 = a := rfl
  have e2 : nthI [a, b] 1 = b := rfl
  rcases hc with rfl | rfl <;> omega
theorem apart_at {cs : List Int} (h2 : cs.length = 2) (h : ∀ c ∈ cs, ¬ c < 0) (i : Nat) (hi : i < 2) : 0 ≤ nthI cs i := by
  have : nthI cs i = cs[i]'(by omega) := by simp [nthI, List.getD_eq_getElem?_getD, List.getElem?_eq_getElem (show i < cs.length by omega)]
  rw [this]
  have := h (cs[i]'(by omega)) (List.getElem_mem _)
  omega
theorem vp_same_sum (vs cs : List Int) (n N : Int) : (decide (N ≤ 40) && (manyB vs.length && ((cs.length : Int) == (vs.length : Int)) && !(cs.any fun x => x == 0) && coefB n) && vs.all (inB N) && cs.all coefB) = vpCore vs.length vs.length vs.length true false true vs cs n N := by
  rw [Bool.eq_iff_iff]
  skip
  unfold vpCore
  simp only [manyB, coefB, Bool.and_eq_true, decide_eq_true_eq, List.all_eq_true, Bool.not_eq_true', List.any_eq_false, beq_iff_eq, inB, Bool.or_eq_true, Bool.and_eq_false_iff, Bool.true_and, Bool.false_and, Bool.not_false, Bool.not_true, Bool.and_true, Bool.false_or, Bool.true_or, and_true, decide_eq_false_iff_not, beq_eq_false_iff_ne]
  constructor
  · rintro ⟨⟨⟨h0, ⟨⟨h1, h2⟩, h3⟩, h4⟩, h5⟩, h6⟩
    exact ⟨⟨⟨(by and_intros <;> first | trivial | omega), fun v hv => h5 v hv⟩, fun c hc => ⟨h6 c hc, by simpa using h3 c hc⟩⟩, h4⟩
  · rintro ⟨⟨⟨h1, h2⟩, h3⟩, h4⟩
    exact ⟨⟨⟨by omega, ⟨⟨by omega, by omega⟩, fun c hc => by simpa using (h3 c hc).2⟩, h4⟩, fun v hv => h2 v hv⟩, fun c hc => (h3 c hc).1⟩
theorem vp_same_most (vs cs : List Int) (n N : Int) : (decide (N ≤ 40) && (manyB vs.length && ((cs.length : Int) == (vs.length : Int)) && !(cs.any fun x => x == 0) && coefB n) && vs.all (inB N) && cs.all coefB) = vpCore vs.length vs.length vs.length true false true vs cs n N := by
  rw [Bool.eq_iff_iff]
  skip
  unfold vpCore
  simp only [manyB, coefB, Bool.and_eq_true, decide_eq_true_eq, List.all_eq_true, Bool.not_eq_true', List.any_eq_false, beq_iff_eq, inB, Bool.or_eq_true, Bool.and_eq_false_iff, Bool.true_and, Bool.false_and, Bool.not_false, Bool.not_true, Bool.and_true, Bool.false_or, Bool.true_or, and_true, decide_eq_false_iff_not, beq_eq_false_iff_ne]
  constructor
  · rintro ⟨⟨⟨h0, ⟨⟨h1, h2⟩, h3⟩, h4⟩, h5⟩, h6⟩
    exact ⟨⟨⟨(by and_intros <;> first | trivial | omega), fun v hv => h5 v hv⟩, fun c hc => ⟨h6 c hc, by simpa using h3 c hc⟩⟩, h4⟩
  · rintro ⟨⟨⟨h1, h2⟩, h3⟩, h4⟩
    exact ⟨⟨⟨by omega, ⟨⟨by omega, by omega⟩, fun c hc => by simpa using (h3 c hc).2⟩, h4⟩, fun v hv => h2 v hv⟩, fun c hc => (h3 c hc).1⟩
theorem vp_same_distinct (vs cs : List Int) (n N : Int) : (decide (N ≤ 40) && (manyB vs.length && ((cs.length : Int) == 0)) && vs.all (inB N) && cs.all coefB) = vpCore vs.length 0 0 false false false vs cs n N := by
  rw [Bool.eq_iff_iff]
  skip
  unfold vpCore
  simp only [manyB, coefB, Bool.and_eq_true, decide_eq_true_eq, List.all_eq_true, Bool.not_eq_true', List.any_eq_false, beq_iff_eq, inB, Bool.or_eq_true, Bool.and_eq_false_iff, Bool.true_and, Bool.false_and, Bool.not_false, Bool.not_true, Bool.and_true, Bool.false_or, Bool.true_or, and_true, decide_eq_false_iff_not, beq_eq_false_iff_ne]
  constructor
  · rintro ⟨⟨⟨h0, h1, h2⟩, h5⟩, h6⟩
    exact ⟨⟨(by and_intros <;> first | trivial | omega), fun v hv => h5 v hv⟩, fun c hc => h6 c hc⟩
  · rintro ⟨⟨h1, h2⟩, h3⟩
    exact ⟨⟨⟨by omega, by omega, by omega⟩, fun v hv => h2 v hv⟩, fun c hc => h3 c hc⟩
theorem vp_same_unlike (vs cs : List Int) (n N : Int) : (decide (N ≤ 40) && (((vs.length : Int) == 2) && ((cs.length : Int) == 0) && coefB n) && vs.all (inB N) && cs.all coefB) = vpCore 2 0 0 false false true vs cs n N := by
  rw [Bool.eq_iff_iff]
  skip
  unfold vpCore
  simp only [manyB, coefB, Bool.and_eq_true, decide_eq_true_eq, List.all_eq_true, Bool.not_eq_true', List.any_eq_false, beq_iff_eq, inB, Bool.or_eq_true, Bool.and_eq_false_iff, Bool.true_and, Bool.false_and, Bool.not_false, Bool.not_true, Bool.and_true, Bool.false_or, Bool.true_or, and_true, decide_eq_false_iff_not, beq_eq_false_iff_ne]
  constructor
  · rintro ⟨⟨⟨h0, ⟨h1, h2⟩, h4⟩, h5⟩, h6⟩
    exact ⟨⟨⟨(by and_intros <;> first | trivial | omega), fun v hv => h5 v hv⟩, fun c hc => h6 c hc⟩, h4⟩
  · rintro ⟨⟨⟨h1, h2⟩, h3⟩, h4⟩
    exact ⟨⟨⟨by omega, ⟨by omega, by omega⟩, h4⟩, fun v hv => h2 v hv⟩, fun c hc => h3 c hc⟩
theorem vp_same_product (vs cs : List Int) (n N : Int) : (decide (N ≤ 40) && (((vs.length : Int) == 3) && ((cs.length : Int) == 0)) && vs.all (inB N) && cs.all coefB) = vpCore 3 0 0 false false false vs cs n N := by
  rw [Bool.eq_iff_iff]
  skip
  unfold vpCore
  simp only [manyB, coefB, Bool.and_eq_true, decide_eq_true_eq, List.all_eq_true, Bool.not_eq_true', List.any_eq_false, beq_iff_eq, inB, Bool.or_eq_true, Bool.and_eq_false_iff, Bool.true_and, Bool.false_and, Bool.not_false, Bool.not_true, Bool.and_true, Bool.false_or, Bool.true_or, and_true, decide_eq_false_iff_not, beq_eq_false_iff_ne]
  constructor
  · rintro ⟨⟨⟨h0, h1, h2⟩, h5⟩, h6⟩
    exact ⟨⟨(by and_intros <;> first | trivial | omega), fun v hv => h5 v hv⟩, fun c hc => h6 c hc⟩
  · rintro ⟨⟨h1, h2⟩, h3⟩
    exact ⟨⟨⟨by omega, by omega, by omega⟩, fun v hv => h2 v hv⟩, fun c hc => h3 c hc⟩
theorem vp_same_max (vs cs : List Int) (n N : Int) : (decide (N ≤ 40) && (((vs.length : Int) == 3) && ((cs.length : Int) == 0)) && vs.all (inB N) && cs.all coefB) = vpCore 3 0 0 false false false vs cs n N := by
  rw [Bool.eq_iff_iff]
  skip
  unfold vpCore
  simp only [manyB, coefB, Bool.and_eq_true, decide_eq_true_eq, List.all_eq_true, Bool.not_eq_true', List.any_eq_false, beq_iff_eq, inB, Bool.or_eq_true, Bool.and_eq_false_iff, Bool.true_and, Bool.false_and, Bool.not_false, Bool.not_true, Bool.and_true, Bool.false_or, Bool.true_or, and_true, decide_eq_false_iff_not, beq_eq_false_iff_ne]
  constructor
  · rintro ⟨⟨⟨h0, h1, h2⟩, h5⟩, h6⟩
    exact ⟨⟨(by and_intros <;> first | trivial | omega), fun v hv => h5 v hv⟩, fun c hc => h6 c hc⟩
  · rintro ⟨⟨h1, h2⟩, h3⟩
    exact ⟨⟨⟨by omega, by omega, by omega⟩, fun v hv => h2 v hv⟩, fun c hc => h3 c hc⟩
theorem vp_same_reify (vs cs : List Int) (n N : Int) : (decide (N ≤ 40) && (((vs.length : Int) == 3) && ((cs.length : Int) == 0) && coefB n) && vs.all (inB N) && cs.all coefB) = vpCore 3 0 0 false false true vs cs n N := by
  rw [Bool.eq_iff_iff]
  skip
  unfold vpCore
  simp only [manyB, coefB, Bool.and_eq_true, decide_eq_true_eq, List.all_eq_true, Bool.not_eq_true', List.any_eq_false, beq_iff_eq, inB, Bool.or_eq_true, Bool.and_eq_false_iff, Bool.true_and, Bool.false_and, Bool.not_false, Bool.not_true, Bool.and_true, Bool.false_or, Bool.true_or, and_true, decide_eq_false_iff_not, beq_eq_false_iff_ne]
  constructor
  · rintro ⟨⟨⟨h0, ⟨h1, h2⟩, h4⟩, h5⟩, h6⟩
    exact ⟨⟨⟨(by and_intros <;> first | trivial | omega), fun v hv => h5 v hv⟩, fun c hc => h6 c hc⟩, h4⟩
  · rintro ⟨⟨⟨h1, h2⟩, h3⟩, h4⟩
    exact ⟨⟨⟨by omega, ⟨by omega, by omega⟩, h4⟩, fun v hv => h2 v hv⟩, fun c hc => h3 c hc⟩
theorem vp_same_element (vs cs : List Int) (n N : Int) : (decide (N ≤ 40) && (((vs.length : Int) == 2) && manyB cs.length) && vs.all (inB N) && cs.all coefB) = vpCore 2 1 40 false false false vs cs n N := by
  rw [Bool.eq_iff_iff]
  skip
  unfold vpCore
  simp only [manyB, coefB, Bool.and_eq_true, decide_eq_true_eq, List.all_eq_true, Bool.not_eq_true', List.any_eq_false, beq_iff_eq, inB, Bool.or_eq_true, Bool.and_eq_false_iff, Bool.true_and, Bool.false_and, Bool.not_false, Bool.not_true, Bool.and_true, Bool.false_or, Bool.true_or, and_true, decide_eq_false_iff_not, beq_eq_false_iff_ne]
  constructor
  · rintro ⟨⟨⟨h0, h1, h2⟩, h5⟩, h6⟩
    exact ⟨⟨(by and_intros <;> first | trivial | omega), fun v hv => h5 v hv⟩, fun c hc => h6 c hc⟩
  · rintro ⟨⟨h1, h2⟩, h3⟩
    exact ⟨⟨⟨by omega, by omega, by omega⟩, fun v hv => h2 v hv⟩, fun c hc => h3 c hc⟩
theorem vp_same_apart (vs cs : List Int) (n N : Int) : (decide (N ≤ 40) && (apartB vs cs) && vs.all (inB N) && cs.all coefB) = vpCore 2 2 2 false true false vs cs n N := by
  rw [Bool.eq_iff_iff]
  unfold apartB
  unfold vpCore
  simp only [manyB, coefB, Bool.and_eq_true, decide_eq_true_eq, List.all_eq_true, Bool.not_eq_true', List.any_eq_false, beq_iff_eq, inB, Bool.or_eq_true, Bool.and_eq_false_iff, Bool.true_and, Bool.false_and, Bool.not_false, Bool.not_true, Bool.and_true, Bool.false_or, Bool.true_or, and_true, decide_eq_false_iff_not, beq_eq_false_iff_ne]
  constructor
  · rintro ⟨⟨⟨h0, h1, h2, h3, h4⟩, h5⟩, h6⟩
    exact ⟨⟨(by and_intros <;> first | trivial | omega), fun v hv => h5 v hv⟩, fun c hc => ⟨h6 c hc, apart_nonneg h2 h3 h4 c hc⟩⟩
  · rintro ⟨⟨h1, h2⟩, h3⟩
    exact ⟨⟨⟨by omega, by omega, by omega, apart_at (by omega) (fun c hc => (h3 c hc).2) 0 (by omega), apart_at (by omega) (fun c hc => (h3 c hc).2) 1 (by omega)⟩, fun v hv => h2 v hv⟩, fun c hc => (h3 c hc).1⟩
end Go.Proofs.YtpejolnjnkcolaaDoor
