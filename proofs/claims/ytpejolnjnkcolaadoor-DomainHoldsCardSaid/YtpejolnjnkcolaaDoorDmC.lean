/-
  What is at most what, and what is the product of what, exactly.
-/
import Derived.Test.YtpejolnjnkcolaaDoorDmB
namespace Go.Proofs.YtpejolnjnkcolaaDoor
open Go.RowKit

/-- two numbers in a new row -/
theorem ints_two {w : World} {b : Nat} {x y : Int} (hx : -9223372036854775808 ≤ x ∧ x ≤ 9223372036854775807) (hy : -9223372036854775808 ≤ y ∧ y ≤ 9223372036854775807) (h0 : w.cell? ⟨b, 0, none⟩ = some (.int .i64 x)) (h1 : w.cell? ⟨b, 1, none⟩ = some (.int .i64 y)) (hb : b < w.heap.size) :
    Ints w (some ⟨b, 0, none⟩) [x, y] := by
  refine ⟨by simp, fun z hz => ?_, fun _ => ⟨b, 0, rfl, hb, fun i hi => ?_⟩⟩
  · simp at hz; rcases hz with rfl | rfl <;> assumption
  · match i, hi with
    | 0, _ => simpa using h0
    | 1, _ => simpa using h1
set_option maxHeartbeats 1000000 in
/-- the sum of two products of numbers that are given, and what it is compared with -/
theorem two_any (c d x y : Int) (k1 k2 : Nat) (b : Nat) (w : World) (hcd : (-1000000 ≤ c ∧ c ≤ 1000000) ∧ (-1000000 ≤ d ∧ d ≤ 1000000)) (hx : -9223372036854775808 ≤ x ∧ x ≤ 9223372036854775807) (hy : -9223372036854775808 ≤ y ∧ y ≤ 9223372036854775807)
    (h0 : w.cell? ⟨b, 0, none⟩ = some (.int .i64 c)) (h1 : w.cell? ⟨b, 1, none⟩ = some (.int .i64 d)) (g0 : w.cell? ⟨b + 1, 0, none⟩ = some (.int .i64 x)) (g1 : w.cell? ⟨b + 1, 1, none⟩ = some (.int .i64 y)) (hb : b + 1 < w.heap.size) :
    Calls Tryd.prog 45 #[.slice (some ⟨b, 0, none⟩) 2 k1, .slice (some ⟨b + 1, 0, none⟩) 2 k2] w fun e w' => e = .returned (wideV (c * x + d * y)) ∧ Below w.heap.size w w' := by
  have h := total_any [c, d] [x, y] (some ⟨b, 0, none⟩) (some ⟨b + 1, 0, none⟩) k1 k2 w (ints_two (by omega) (by omega) h0 h1 (by omega)) (ints_two hx hy g0 g1 hb) (by simp) (by simp) (by intro z hz; simp at hz; rcases hz with rfl | rfl <;> omega)
  have e : dot [c, d] [x, y] = c * x + d * y := by simp [dot, psum]
  rw [e] at h
  exact h
set_option maxHeartbeats 2000000 in
theorem atMost_any (x y n : Int) (w : World) (hx : -9223372036854775808 ≤ x ∧ x ≤ 9223372036854775807) (hy : -9223372036854775808 ≤ y ∧ y ≤ 9223372036854775807) (hn : -9223372036854775808 ≤ n ∧ n ≤ 9223372036854775807) :
    Calls Tryd.prog 47 #[.int .i64 x, .int .i64 y, .int .i64 n] w fun e w' => e = .returned (.bool (decide (x - y ≤ n))) ∧ Below w.heap.size w w' := by
  have T := Lib.hid (fun b w => two_any 1 (-1) x y 2 2 b w (by omega) hx hy)
  have e : 1 * x + -1 * y = x - y := by omega
  rw [e] at T
  clear e
  have C := Lib.hid (fun w => compare_any (x - y) n w (by omega) hn)
  have E := Lib.hid (show decide (sgn (x - y - n) ≤ 0) = decide (x - y ≤ n) by
    unfold sgn
    split
    · simp; omega
    · split <;> simp <;> omega)
  generalize x - y = s at *
  generalize decide (s ≤ n) = V at *
  generalize sgn (s - n) = q at *
  go_enter Tryd.func47, Tryd.ntmps47
  go_wp2_with fail
  refine (T.out w.heap.size _ (by simp [go_sem]) (by simp [go_sem]) (by simp [go_sem]) (by simp [go_sem]) (by simp)).mono ?_
  rintro e w1 ⟨rfl, hb⟩
  have HB := Lib.hid ((((Below.refl _ w).alloc (Nat.le_refl _) (.cells #[.int .i64 1, .int .i64 (-1)] 3)).alloc (by simp) (.cells #[.int .i64 x, .int .i64 y] 3)).trans (hb.mono (by simp; omega)))
  clear hb
  go_wp2_with fail
  refine (C.out _).mono ?_
  rintro e w2 ⟨rfl, hb⟩
  have HC := Lib.hid (HB.out.trans (hb.mono HB.out.size))
  clear hb
  go_wp2_with fail
  go_ret
  exact ⟨by first | rfl | (rw [E.out]; rfl), HC.out⟩
theorem tmod_quot {x y z : Int} (h0 : x ≠ 0) : (z.tmod x = 0 ∧ z.tdiv x = y) ↔ x * y = z := by
  constructor
  · rintro ⟨h1, rfl⟩
    have := Int.mul_tdiv_add_tmod z x
    omega
  · rintro rfl
    exact ⟨by simp, by rw [Int.mul_tdiv_cancel_left _ h0]⟩
theorem tdiv_bound {x z : Int} (h : 2 ≤ x ∨ x ≤ -2) (hz : -9223372036854775808 ≤ z ∧ z ≤ 9223372036854775807) : -9223372036854775808 ≤ z.tdiv x ∧ z.tdiv x ≤ 9223372036854775807 := by
  have h1 : (z.tdiv x).natAbs = z.natAbs / x.natAbs := Int.natAbs_tdiv z x
  have h2 : z.natAbs / x.natAbs ≤ z.natAbs / 2 := Nat.div_le_div_left (by omega) (by omega)
  omega
theorem tdiv_one_bound {x z : Int} (h : x ≠ -1) (hz : -9223372036854775808 ≤ z ∧ z ≤ 9223372036854775807) : -9223372036854775808 ≤ z.tdiv x ∧ z.tdiv x ≤ 9223372036854775807 := by
  by_cases h2 : 2 ≤ x ∨ x ≤ -2
  · exact tdiv_bound h2 hz
  · rcases (show x = 0 ∨ x = 1 by omega) with rfl | rfl
    · simp
    · simpa using hz
set_option maxHeartbeats 4000000 in
theorem times_any (x y z : Int) (w : World) (hx : -9223372036854775808 ≤ x ∧ x ≤ 9223372036854775807) (hy : -9223372036854775808 ≤ y ∧ y ≤ 9223372036854775807) (hz : -9223372036854775808 ≤ z ∧ z ≤ 9223372036854775807) :
    Calls Tryd.prog 46 #[.int .i64 x, .int .i64 y, .int .i64 z] w fun e w' => e = .returned (.bool (decide (x * y = z))) ∧ Below w.heap.size w w' := by
  by_cases hx0 : x = 0
  · subst hx0
    have E : decide ((0 : Int) * y = z) = (z == 0) := by rw [Int.zero_mul, Bool.eq_iff_iff, decide_eq_true_iff, beq_iff_eq]; exact eq_comm
    rw [E]
    go_enter Tryd.func46, Tryd.ntmps46
    go_wp2_with fail
    go_ret
    exact ⟨rfl, Below.refl _ _⟩
  have q0 : (x == 0) = false := by simpa using hx0
  by_cases hy0 : y = 0
  · subst hy0
    have E : decide (x * (0 : Int) = z) = (z == 0) := by rw [Int.mul_zero, Bool.eq_iff_iff, decide_eq_true_iff, beq_iff_eq]; exact eq_comm
    rw [E]
    go_enter Tryd.func46, Tryd.ntmps46
    go_wp2_with fail
    go_ret
    exact ⟨rfl, Below.refl _ _⟩
  have r0 : (y == 0) = false := by simpa using hy0
  by_cases hx1 : x = -1
  · subst hx1
    have T := Lib.hid (fun b w => two_any 1 1 y z 2 2 b w (by omega) hy hz)
    have C := Lib.hid (fun w => compare_any (1 * y + 1 * z) 0 w (by omega) (by omega))
    have E := Lib.hid (show (sgn (1 * y + 1 * z - 0) == 0) = decide (-1 * y = z) by
      rw [Bool.eq_iff_iff]
      unfold sgn
      split
      · simp; omega
      · split <;> simp <;> omega)
    generalize decide (-1 * y = z) = V at *
    generalize sgn (1 * y + 1 * z - 0) = q at *
    generalize 1 * y + 1 * z = s at *
    go_enter Tryd.func46, Tryd.ntmps46
    go_wp2_with fail
    refine (T.out w.heap.size _ (by simp [go_sem]) (by simp [go_sem]) (by simp [go_sem]) (by simp [go_sem]) (by simp)).mono ?_
    rintro e w1 ⟨rfl, hb⟩
    have HB := Lib.hid ((((Below.refl _ w).alloc (Nat.le_refl _) (.cells #[.int .i64 1, .int .i64 1] 3)).alloc (by simp) (.cells #[.int .i64 y, .int .i64 z] 3)).trans (hb.mono (by simp; omega)))
    clear hb
    go_wp2_with fail
    refine (C.out _).mono ?_
    rintro e w2 ⟨rfl, hb⟩
    have HC := Lib.hid (HB.out.trans (hb.mono HB.out.size))
    clear hb
    go_wp2_with fail
    go_ret
    exact ⟨by first | rfl | (rw [← E.out]; rfl), HC.out⟩
  have q1 : (x == -1) = false := by simpa using hx1
  by_cases hy1 : y = -1
  · subst hy1
    have T := Lib.hid (fun b w => two_any 1 1 x z 2 2 b w (by omega) hx hz)
    have C := Lib.hid (fun w => compare_any (1 * x + 1 * z) 0 w (by omega) (by omega))
    have E := Lib.hid (show (sgn (1 * x + 1 * z - 0) == 0) = decide (x * -1 = z) by
      rw [Bool.eq_iff_iff]
      unfold sgn
      split
      · simp; omega
      · split <;> simp <;> omega)
    generalize decide (x * -1 = z) = V at *
    generalize sgn (1 * x + 1 * z - 0) = q at *
    generalize 1 * x + 1 * z = s at *
    go_enter Tryd.func46, Tryd.ntmps46
    go_wp2_with fail
    refine (T.out w.heap.size _ (by simp [go_sem]) (by simp [go_sem]) (by simp [go_sem]) (by simp [go_sem]) (by simp)).mono ?_
    rintro e w1 ⟨rfl, hb⟩
    have HB := Lib.hid ((((Below.refl _ w).alloc (Nat.le_refl _) (.cells #[.int .i64 1, .int .i64 1] 3)).alloc (by simp) (.cells #[.int .i64 x, .int .i64 z] 3)).trans (hb.mono (by simp; omega)))
    clear hb
    go_wp2_with fail
    refine (C.out _).mono ?_
    rintro e w2 ⟨rfl, hb⟩
    have HC := Lib.hid (HB.out.trans (hb.mono HB.out.size))
    clear hb
    go_wp2_with fail
    go_ret
    exact ⟨by first | rfl | (rw [← E.out]; rfl), HC.out⟩
  have r1 : (y == -1) = false := by simpa using hy1
  have tq := tmod_quot (y := y) (z := z) hx0
  have tb := tdiv_one_bound hx1 hz
  have E := Lib.hid (show decide (x * y = z) = (z.tmod x == 0 && z.tdiv x == y) by rw [Bool.eq_iff_iff]; simp [tq])
  clear tq
  generalize decide (x * y = z) = V at *
  have w1 : IntKind.i64.wrap (z.tdiv x) = z.tdiv x := IntWalk.i64_in _ (by omega)
  by_cases hm : z.tmod x = 0
  · have hm' : (z.tmod x == 0) = true := by simpa using hm
    rw [hm'] at E
    clear hm
    go_enter Tryd.func46, Tryd.ntmps46
    go_wp2_with fail
    go_ret
    exact ⟨by first | rfl | (rw [E.out]; rfl), Below.refl _ _⟩
  · have hm' : (z.tmod x == 0) = false := by simpa using hm
    rw [hm'] at E
    clear hm
    go_enter Tryd.func46, Tryd.ntmps46
    go_wp2_with fail
    go_ret
    exact ⟨by first | rfl | (rw [E.out]; rfl), Below.refl _ _⟩
end Go.Proofs.YtpejolnjnkcolaaDoor
