/-
  A number as a high and a low part; how two are compared.
-/
import Derived.Test.YtpejolnjnkcolaaDoorDmSpec
import Derived.Test.YtpejolnjnkcolaaDoorRows
import Derived.Handy
import Derived.Deep.RegionHeld3
import Derived.Lib.Hide
import Derived.WalkLawsBesides
namespace Go.Proofs.YtpejolnjnkcolaaDoor
open Go.RowKit

def wideV (x : Int) : Value := .agg #[.int .i64 (x / 4294967296), .int .i64 (x % 4294967296)]
set_option maxHeartbeats 1000000 in
theorem whole_any (h l : Int) (w : World) (hh : -4000000000000000000 ≤ h ∧ h ≤ 4000000000000000000) (hl : -9000000000000000000 ≤ l ∧ l ≤ 9000000000000000000) :
    Calls Tryd.prog 70 #[.int .i64 h, .int .i64 l] w fun e w' => e = .returned (wideV (4294967296 * h + l)) ∧ Below w.heap.size w w' := by
  have e1 : (4294967296 * h + l) / 4294967296 = h + l / 4294967296 := by omega
  have e2 : (4294967296 * h + l) % 4294967296 = l - l / 4294967296 * 4294967296 := by omega
  unfold wideV
  rw [e1, e2]
  clear e1 e2
  go_enter Tryd.func70, Tryd.ntmps70
  go_wp2_with fail
  exact bodyPost_ret (v := .agg #[.int .i64 (h + l / 4294967296), .int .i64 (l - l / 4294967296 * 4294967296)]) (by simp [results, Tryd.results70, go_sem]) rfl ⟨rfl, (Below.refl _ _).alloc (Nat.le_refl _) _⟩

set_option maxRecDepth 100000 in
theorem run_eqWide (a b c d : Int) (xo yo : Operand) (w : World) :
    (do eqGuard .eql 65 xo yo (.agg #[.int .i64 a, .int .i64 b]) (.agg #[.int .i64 c, .int .i64 d]); binOp .eql 65 (.agg #[.int .i64 a, .int .i64 b]) (.agg #[.int .i64 c, .int .i64 d]) : Sem Value).run Tryd.prog w = .ok (.bool (a == c && b == d)) w := by
  have hm : Tryd.prog.eqGuardType Tryd.prog.depth 65 = false := by kernel_rfl
  have hp : Tryd.prog.stoodInHeld 65 = false := by kernel_rfl
  have ht : Tryd.prog.underlying 65 = some (.struct (Tryd.prog.fieldsOf 65)) := by kernel_rfl
  rw [Sem.run_bind, run_eqGuard_agg _ _ _ _ _ _ _ hm]
  simp only [Result.andThen_ok]
  rw [run_eql_struct, run_equalIn_struct _ 9999 _ _ _ ht hp]
  have ei : ∀ a b : Int, (Op.equalIn 9999 3 (.int .i64 a) (.int .i64 b)).run Tryd.prog w = .ok (a == b) w := fun a b => run_equalIn_int (P := Tryd.prog) w 9998 3 .i64 .i64 a b Tryd.underlying3
  have hf : ∃ f1 f2 : Field, (Tryd.prog.fieldsOf 65).toList = [f1, f2] ∧ f1.name ≠ "_" ∧ f2.name ≠ "_" ∧ f1.type = 3 ∧ f2.type = 3 ∧ f1.offset = 0 ∧ f2.offset = 1 := ⟨(Tryd.prog.fieldsOf 65)[0]!, (Tryd.prog.fieldsOf 65)[1]!, by kernel_rfl, by decide +kernel, by decide +kernel, by kernel_rfl, by kernel_rfl, by kernel_rfl, by kernel_rfl⟩
  obtain ⟨f1, f2, hl, n1, n2, t1, t2, o1, o2⟩ := hf
  have ai : (isAgg 3).run Tryd.prog w = .ok false w := by simp [isAgg, run_underlying Tryd.underlying3]
  have p0 : ∀ (n m : Int), (part 3 #[.int .i64 n, .int .i64 m] 0).run Tryd.prog w = .ok (.int .i64 n) w := fun n m => by simp [part, ai]
  have p1 : ∀ (n m : Int), (part 3 #[.int .i64 n, .int .i64 m] 1).run Tryd.prog w = .ok (.int .i64 m) w := fun n m => by simp [part, ai]
  rw [hl]
  simp only [Op.eqFields, n1, n2, ne_eq, not_false_eq_true, if_true, t1, t2, o1, o2, Sem.run_bind, p0, ei, Result.andThen_ok]
  cases h : a == c
  · simp
  · simp only [Bool.not_true, Bool.false_eq_true, if_false, Sem.run_bind, p1, Result.andThen_ok, ei]
    cases h2 : b == d <;> simp

set_option maxHeartbeats 2000000 in
theorem compare_parts (xh xl nh nl n : Int) (w : World) (V : Int) (hn : n = 4294967296 * nh + nl) (a1 : -4000000000000000000 ≤ xh ∧ xh ≤ 4000000000000000000) (a2 : 0 ≤ xl ∧ xl ≤ 4294967295) (b1 : -2147483648 ≤ nh ∧ nh ≤ 2147483647) (b2 : 0 ≤ nl ∧ nl ≤ 4294967295)
    (hV : sgn (4294967296 * xh + xl - n) = V) :
    Calls Tryd.prog 44 #[.agg #[.int .i64 xh, .int .i64 xl], .int .i64 n] w fun e w' => e = .returned (.int .i64 V) ∧ Below w.heap.size w w' := by
  have wc := fun w => whole_any nh nl w (by omega) (by omega)
  have e0 : n / 4294967296 = nh := by omega
  have e1 : n - nh * 4294967296 = nl := by omega
  unfold wideV at wc
  have e2 : (4294967296 * nh + nl) / 4294967296 = nh := by omega
  have e3 : (4294967296 * nh + nl) % 4294967296 = nl := by omega
  rw [e2, e3] at wc
  have hV2 : V = if xh = nh ∧ xl = nl then 0 else if xh < nh ∨ xh = nh ∧ xl < nl then -1 else 1 := by
    rw [← hV, hn]
    unfold sgn
    by_cases h1 : xh = nh ∧ xl = nl
    · rw [if_pos h1, if_pos (by omega)]
    · rw [if_neg h1, if_neg (by omega)]
      by_cases h2 : xh < nh ∨ xh = nh ∧ xl < nl
      · rw [if_pos h2, if_pos (by omega)]
      · rw [if_neg h2, if_neg (by omega)]
  have hnr : -9223372036854775808 ≤ n ∧ n ≤ 9223372036854775807 := by omega
  have WC := Lib.hid wc
  have RE := run_eqWide xh xl nh nl
  clear hV wc hn e2 e3
  rcases Int.lt_trichotomy xh nh with hc | hc | hc
  · obtain rfl : V = -1 := by rw [hV2]; rw [if_neg (by omega), if_pos (by omega)]
    clear hV2
    go_enter Tryd.func44, Tryd.ntmps44
    go_wp2_with fail
    refine (WC.out _).mono ?_
    rintro e w1 ⟨rfl, hb⟩
    have c0 : w1.cell? ⟨w.heap.size, 0, none⟩ = some (.int .i64 xh) := (hb.cell (p := ⟨w.heap.size, 0, none⟩) (by simp)).trans (by simp [go_sem])
    have c1 : w1.cell? ⟨w.heap.size, 1, none⟩ = some (.int .i64 xl) := (hb.cell (p := ⟨w.heap.size, 1, none⟩) (by simp)).trans (by simp [go_sem])
    have hz : w.heap.size < w1.heap.size := by have := hb.size; simp at this; omega
    have hz2 : w.heap.size ≤ w1.heap.size := Nat.le_of_lt hz
    have hb2 := Lib.hid ((((Below.refl _ w).alloc (Nat.le_refl _) _).trans (hb.mono (by simp))).alloc hz2 (.cells #[.int .i64 nh, .int .i64 nl] 65))
    clear hb
    have t1 : (xh == nh && xl == nl) = false := by simp; omega
    go_wp2_with fail
    go_ret
    exact ⟨rfl, hb2.out⟩
  · subst hc
    rcases Int.lt_trichotomy xl nl with hd | hd | hd
    · obtain rfl : V = -1 := by rw [hV2]; rw [if_neg (by omega), if_pos (by omega)]
      clear hV2
      go_enter Tryd.func44, Tryd.ntmps44
      go_wp2_with fail
      refine (WC.out _).mono ?_
      rintro e w1 ⟨rfl, hb⟩
      have c0 : w1.cell? ⟨w.heap.size, 0, none⟩ = some (.int .i64 xh) := (hb.cell (p := ⟨w.heap.size, 0, none⟩) (by simp)).trans (by simp [go_sem])
      have c1 : w1.cell? ⟨w.heap.size, 1, none⟩ = some (.int .i64 xl) := (hb.cell (p := ⟨w.heap.size, 1, none⟩) (by simp)).trans (by simp [go_sem])
      have hz : w.heap.size < w1.heap.size := by have := hb.size; simp at this; omega
      have hz2 : w.heap.size ≤ w1.heap.size := Nat.le_of_lt hz
      have hb2 := Lib.hid ((((Below.refl _ w).alloc (Nat.le_refl _) _).trans (hb.mono (by simp))).alloc hz2 (.cells #[.int .i64 xh, .int .i64 nl] 65))
      clear hb
      have t1 : (xh == xh && xl == nl) = false := by simp; omega
      go_wp2_with fail
      go_ret
      exact ⟨rfl, hb2.out⟩
    · subst hd
      obtain rfl : V = 0 := by rw [hV2]; rw [if_pos ⟨rfl, rfl⟩]
      clear hV2
      go_enter Tryd.func44, Tryd.ntmps44
      go_wp2_with fail
      refine (WC.out _).mono ?_
      rintro e w1 ⟨rfl, hb⟩
      have c0 : w1.cell? ⟨w.heap.size, 0, none⟩ = some (.int .i64 xh) := (hb.cell (p := ⟨w.heap.size, 0, none⟩) (by simp)).trans (by simp [go_sem])
      have c1 : w1.cell? ⟨w.heap.size, 1, none⟩ = some (.int .i64 xl) := (hb.cell (p := ⟨w.heap.size, 1, none⟩) (by simp)).trans (by simp [go_sem])
      have hz : w.heap.size < w1.heap.size := by have := hb.size; simp at this; omega
      have hz2 : w.heap.size ≤ w1.heap.size := Nat.le_of_lt hz
      have hb2 := Lib.hid ((((Below.refl _ w).alloc (Nat.le_refl _) _).trans (hb.mono (by simp))).alloc hz2 (.cells #[.int .i64 xh, .int .i64 xl] 65))
      clear hb
      have t1 : (xh == xh && xl == xl) = true := by simp
      go_wp2_with fail
      go_ret
      exact ⟨rfl, hb2.out⟩
    · obtain rfl : V = 1 := by rw [hV2]; rw [if_neg (by omega), if_neg (by omega)]
      clear hV2
      go_enter Tryd.func44, Tryd.ntmps44
      go_wp2_with fail
      refine (WC.out _).mono ?_
      rintro e w1 ⟨rfl, hb⟩
      have c0 : w1.cell? ⟨w.heap.size, 0, none⟩ = some (.int .i64 xh) := (hb.cell (p := ⟨w.heap.size, 0, none⟩) (by simp)).trans (by simp [go_sem])
      have c1 : w1.cell? ⟨w.heap.size, 1, none⟩ = some (.int .i64 xl) := (hb.cell (p := ⟨w.heap.size, 1, none⟩) (by simp)).trans (by simp [go_sem])
      have hz : w.heap.size < w1.heap.size := by have := hb.size; simp at this; omega
      have hz2 : w.heap.size ≤ w1.heap.size := Nat.le_of_lt hz
      have hb2 := Lib.hid ((((Below.refl _ w).alloc (Nat.le_refl _) _).trans (hb.mono (by simp))).alloc hz2 (.cells #[.int .i64 xh, .int .i64 nl] 65))
      clear hb
      have t1 : (xh == xh && xl == nl) = false := by simp; omega
      go_wp2_with fail
      go_ret
      exact ⟨rfl, hb2.out⟩
  · obtain rfl : V = 1 := by rw [hV2]; rw [if_neg (by omega), if_neg (by omega)]
    clear hV2
    go_enter Tryd.func44, Tryd.ntmps44
    go_wp2_with fail
    refine (WC.out _).mono ?_
    rintro e w1 ⟨rfl, hb⟩
    have c0 : w1.cell? ⟨w.heap.size, 0, none⟩ = some (.int .i64 xh) := (hb.cell (p := ⟨w.heap.size, 0, none⟩) (by simp)).trans (by simp [go_sem])
    have c1 : w1.cell? ⟨w.heap.size, 1, none⟩ = some (.int .i64 xl) := (hb.cell (p := ⟨w.heap.size, 1, none⟩) (by simp)).trans (by simp [go_sem])
    have hz : w.heap.size < w1.heap.size := by have := hb.size; simp at this; omega
    have hz2 : w.heap.size ≤ w1.heap.size := Nat.le_of_lt hz
    have hb2 := Lib.hid ((((Below.refl _ w).alloc (Nat.le_refl _) _).trans (hb.mono (by simp))).alloc hz2 (.cells #[.int .i64 nh, .int .i64 nl] 65))
    clear hb
    have t1 : (xh == nh && xl == nl) = false := by simp; omega
    go_wp2_with fail
    go_ret
    exact ⟨rfl, hb2.out⟩
theorem compare_any (x n : Int) (w : World) (hx : -4000000000000000000 * 4294967296 ≤ x ∧ x ≤ 4000000000000000000 * 4294967296) (hn : -9223372036854775808 ≤ n ∧ n ≤ 9223372036854775807) :
    Calls Tryd.prog 44 #[wideV x, .int .i64 n] w fun e w' => e = .returned (.int .i64 (sgn (x - n))) ∧ Below w.heap.size w w' :=
  compare_parts (x / 4294967296) (x % 4294967296) (n / 4294967296) (n % 4294967296) n w _ (by omega) (by omega) (by omega) (by omega) (by omega) (by congr 1; omega)
end Go.Proofs.YtpejolnjnkcolaaDoor
