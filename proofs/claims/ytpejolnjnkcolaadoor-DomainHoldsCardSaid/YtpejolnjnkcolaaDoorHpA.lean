/-
  Numbers of 128 bits: what the program makes of them.
-/
import Derived.Test.YtpejolnjnkcolaaDoorDmSpec
import Derived.Test.YtpejolnjnkcolaaDoorRows
import Derived.WalkKit
import Derived.Handy
import Derived.Lib.Hide
import Derived.Lib.Mul64
import Derived.Laws.Bits64b
import Derived.Laws.Externs
import Derived.IntWalk
import Derived.WalkLawsBesides
namespace Go.Proofs.YtpejolnjnkcolaaDoor
open Go Go.RowKit

def wideW (x : Int) : Value := .agg #[.int .i64 (x / 18446744073709551616), .int .u64 (x % 18446744073709551616)]
namespace Mul64
theorem maskN (a : Nat) (ha : a < 18446744073709551616) : bits .and .u64 (a : Int) 4294967295 = ((a % 4294967296 : Nat) : Int) := by
  have h := bits_and_u64_nat a 4294967295 ha (by omega)
  have e : a &&& 4294967295 = a % 4294967296 := Nat.and_two_pow_sub_one_eq_mod a 32
  rw [e] at h
  exact h
theorem divN (a : Nat) : (a : Int) / 4294967296 = ((a / 4294967296 : Nat) : Int) := by omega
theorem mulN (a b : Nat) : (a : Int) * (b : Int) = ((a * b : Nat) : Int) := (Int.natCast_mul a b).symm
theorem addN (a b : Nat) : (a : Int) + (b : Int) = ((a + b : Nat) : Int) := (Int.natCast_add a b).symm
theorem wrapN (a : Nat) (ha : a < 18446744073709551616) : IntKind.u64.wrap (a : Int) = (a : Int) := by rw [IntKind.wrap_u64]; omega
theorem wrapM (a : Nat) : IntKind.u64.wrap (a : Int) = ((a % 18446744073709551616 : Nat) : Int) := by rw [IntKind.wrap_u64]; omega
end Mul64
set_option maxHeartbeats 1000000 in
theorem mul64_any (x y : Nat) (hx : x < 18446744073709551616) (hy : y < 18446744073709551616) (w : World) :
    Calls Tryd.prog 85 #[.int .u64 x, .int .u64 y] w fun e w' => e = .returned (.tuple #[.int .u64 ((x * y / 18446744073709551616 : Nat) : Int), .int .u64 ((x * y % 18446744073709551616 : Nat) : Int)]) ∧ w' = w := by
  obtain ⟨bd, bt, bw, hhi⟩ := Lib.mul64_hi x y hx hy
  have ba := Lib.half_mul_le (a := x / 4294967296) (b := y / 4294967296) (by omega) (by omega)
  have bb := Lib.half_mul_le (a := x / 4294967296) (b := y % 4294967296) (by omega) (by omega)
  have bc := Lib.half_mul_le (a := x % 4294967296) (b := y / 4294967296) (by omega) (by omega)
  have ba' : x / 4294967296 * (y / 4294967296) < 18446744073709551616 := by omega
  have bb' : x / 4294967296 * (y % 4294967296) < 18446744073709551616 := by omega
  have bc' : x % 4294967296 * (y / 4294967296) < 18446744073709551616 := by omega
  have bh1 : x / 4294967296 * (y / 4294967296) + (x / 4294967296 * (y % 4294967296) + x % 4294967296 * (y % 4294967296) / 4294967296) / 4294967296 < 18446744073709551616 := by omega
  have bh : x / 4294967296 * (y / 4294967296) + (x / 4294967296 * (y % 4294967296) + x % 4294967296 * (y % 4294967296) / 4294967296) / 4294967296 + ((x / 4294967296 * (y % 4294967296) + x % 4294967296 * (y % 4294967296) / 4294967296) % 4294967296 + x % 4294967296 * (y / 4294967296)) / 4294967296 < 18446744073709551616 := by omega
  go_enter Tryd.func85, Tryd.ntmps85
  go_wp2
  simp only [Mul64.maskN x hx, Mul64.maskN y hy, Mul64.divN, Mul64.mulN, Mul64.addN, Mul64.wrapN _ bd, Mul64.wrapN _ bb', Mul64.wrapN _ bt, Mul64.maskN _ bt, Mul64.wrapN _ bc', Mul64.wrapN _ bw, Mul64.wrapN _ ba', Mul64.wrapN _ bh1, Mul64.wrapN _ bh, Mul64.wrapM (x * y)]
  rw [hhi]
  go_ret2
  exact ⟨rfl, rfl⟩
theorem add64_law (x y c : Nat) (hc : c ≤ 1) (w : World) :
    (callFunc 96 #[.int .u64 x, .int .u64 y, .int .u64 c]).run Tryd.prog w =
      .ok (.value (.tuple #[.int .u64 (((x + y + c) % 18446744073709551616 : Nat) : Int), .int .u64 (((x + y + c) / 18446744073709551616 : Nat) : Int)])) w := by
  rw [run_callFunc_extern Tryd.func96 (by decide +kernel) (by kernel_rfl) (by kernel_rfl) (e := add64Entry) (by kernel_rfl), run_add64 x y c (by omega) (by omega) (by omega) (by omega)]
  simp only [Result.andThen]
  congr 5 <;> omega

theorem wideOf_any (n : Int) (w : World) (hn : -9223372036854775808 ≤ n ∧ n ≤ 9223372036854775807) :
    Calls Tryd.prog 65 #[.int .i64 n] w fun e w' => e = .returned (wideW n) ∧ Below w.heap.size w w' := by
  have e1 : n / 9223372036854775808 = n / 18446744073709551616 := by omega
  have e2 : IntKind.u64.wrap n = n % 18446744073709551616 := by rw [IntKind.wrap_u64]
  go_enter Tryd.func65, Tryd.ntmps65
  go_wp2_with fail
  exact bodyPost_ret (v := wideW n) (by simp [results, Tryd.results65, go_sem, wideW]) rfl ⟨rfl, (Below.refl _ _).alloc (Nat.le_refl _) _⟩

def wBound (x : Int) : Prop := -85070591730234615865843651857942052864 ≤ x ∧ x ≤ 85070591730234615865843651857942052864
set_option maxHeartbeats 1000000 in
theorem plus_any (x y : Int) (w : World) (hx : wBound x) (hy : wBound y) (hxy : wBound (x + y)) :
    Calls Tryd.prog 84 #[wideW x, wideW y] w fun e w' => e = .returned (wideW (x + y)) ∧ Below w.heap.size w w' := by
  unfold wBound at hx hy hxy
  obtain ⟨lx, h1⟩ : ∃ l : Nat, x % 18446744073709551616 = l := ⟨(x % 18446744073709551616).toNat, by omega⟩
  obtain ⟨ly, h2⟩ : ∃ l : Nat, y % 18446744073709551616 = l := ⟨(y % 18446744073709551616).toNat, by omega⟩
  have e1 : (x + y) / 18446744073709551616 = x / 18446744073709551616 + y / 18446744073709551616 + ((lx + ly) / 18446744073709551616 : Nat) := by omega
  have e2 : (x + y) % 18446744073709551616 = ((lx + ly) % 18446744073709551616 : Nat) := by omega
  unfold wideW
  rw [h1, h2, e1, e2]
  have A := Lib.hid (fun w => add64_law lx ly 0 (by omega) w)
  generalize x / 18446744073709551616 = p at *
  generalize y / 18446744073709551616 = q at *
  obtain ⟨c, hc⟩ : ∃ c : Nat, (lx + ly) / 18446744073709551616 = c := ⟨_, rfl⟩
  obtain ⟨m, hm⟩ : ∃ m : Nat, (lx + ly) % 18446744073709551616 = m := ⟨_, rfl⟩
  have hc1 : c ≤ 1 := by omega
  have A2 : ∀ w, (callFunc 96 #[.int .u64 lx, .int .u64 ly, .int .u64 0]).run Tryd.prog w = .ok (.value (.tuple #[.int .u64 (m : Int), .int .u64 (c : Int)])) w := fun w => by
    have := A.out w
    rw [Nat.add_zero, hc, hm] at this
    exact this
  have w1 : IntKind.i64.wrap (p + q) = p + q := IntWalk.i64_in _ (by omega)
  have w2 : IntKind.i64.wrap (c : Int) = c := IntWalk.i64_in _ (by omega)
  have w3 : IntKind.i64.wrap (p + q + c) = p + q + c := IntWalk.i64_in _ (by omega)
  rw [hc, hm]
  clear A e1 e2 h1 h2 hx hy hxy hc hm
  go_enter Tryd.func84, Tryd.ntmps84
  go_wp2_with (simp only [A2])
  exact bodyPost_ret (v := .agg #[.int .i64 (p + q + c), .int .u64 m]) (by simp [results, Tryd.results84, go_sem]) rfl ⟨rfl, (((Below.refl _ _).alloc (Nat.le_refl _) _).alloc (by simp) _).alloc (by simp; omega) _⟩
theorem isLess_any (x y : Int) (w : World) (hx : wBound x) (hy : wBound y) :
    Calls Tryd.prog 66 #[wideW x, wideW y] w fun e w' => e = .returned (.bool (decide (x < y))) ∧ Below w.heap.size w w' := by
  unfold wBound at hx hy
  by_cases h : x / 18446744073709551616 = y / 18446744073709551616
  · have e : decide (x < y) = decide (x % 18446744073709551616 < y % 18446744073709551616) := decide_eq_decide.2 (by omega)
    rw [e]
    unfold wideW
    rw [h]
    go_enter Tryd.func66, Tryd.ntmps66
    go_wp2_with fail
    go_ret
    exact ⟨rfl, ((Below.refl _ _).alloc (Nat.le_refl _) _).alloc (by simp) _⟩
  · have e : decide (x < y) = decide (x / 18446744073709551616 < y / 18446744073709551616) := decide_eq_decide.2 (by omega)
    rw [e]
    have hb : (x / 18446744073709551616 != y / 18446744073709551616) = true := by simpa using h
    unfold wideW
    go_enter Tryd.func66, Tryd.ntmps66
    go_wp2_with fail
    go_ret
    exact ⟨rfl, ((Below.refl _ _).alloc (Nat.le_refl _) _).alloc (by simp) _⟩
theorem sumOf_any (x y : Int) (w : World) (hx : -9223372036854775808 ≤ x ∧ x ≤ 9223372036854775807) (hy : -9223372036854775808 ≤ y ∧ y ≤ 9223372036854775807) :
    Calls Tryd.prog 67 #[.int .i64 x, .int .i64 y] w fun e w' => e = .returned (wideW (x + y)) ∧ Below w.heap.size w w' := by
  have c1 := Lib.hid (fun w => wideOf_any x w hx)
  have c2 := Lib.hid (fun w => wideOf_any y w hy)
  have c3 := Lib.hid (fun w => plus_any x y w (by unfold wBound; omega) (by unfold wBound; omega) (by unfold wBound; omega))
  unfold wideW at *
  generalize (x + y) / 18446744073709551616 = r1 at *
  generalize (x + y) % 18446744073709551616 = r2 at *
  generalize x / 18446744073709551616 = p1 at *
  generalize x % 18446744073709551616 = p2 at *
  generalize y / 18446744073709551616 = q1 at *
  generalize y % 18446744073709551616 = q2 at *
  go_enter Tryd.func67, Tryd.ntmps67
  go_wp2_with fail
  refine (c1.out _).mono ?_
  rintro e w1 ⟨rfl, hb1⟩
  have B1 := Lib.hid hb1
  clear hb1 c1
  go_wp2_with fail
  refine (c2.out _).mono ?_
  rintro e w2 ⟨rfl, hb2⟩
  have B2 := Lib.hid hb2
  clear hb2 c2
  go_wp2_with fail
  refine (c3.out _).mono ?_
  rintro e w3 ⟨rfl, hb3⟩
  have s1 := B1.out.size
  have s2 := B2.out.size
  have hk : w3.heap[w.heap.size]? = some (.cells #[.int .i64 0, .int .u64 0] 85 (0, 0)) :=
    (hb3.block _ (by simp at s1; omega)).trans ((B2.out.block _ (by simp at s1; omega)).trans ((B1.out.block _ (by simp)).trans (by show (w.heap.push _)[w.heap.size]? = _; simp)))
  have d0 : w3.cell? ⟨w.heap.size, 0, none⟩ = some (.int .i64 0) := by simp [World.cell?, hk]
  have d1 : w3.cell? ⟨w.heap.size, 1, none⟩ = some (.int .u64 0) := by simp [World.cell?, hk]
  have f0 : ∀ o, w3.frozen? ⟨w.heap.size, o, none⟩ = false := fun o => by simp [World.frozen?, hk]
  have HB := Lib.hid ((((Below.refl w.heap.size w).alloc (Nat.le_refl _) _).trans (B1.out.mono (by simp))).trans ((B2.out.mono (by simp at s1; omega)).trans (hb3.mono (by simp at s1; omega))))
  clear hb3 hk
  go_wp2_with fail
  exact bodyPost_ret (v := .agg #[.int .i64 r1, .int .u64 r2]) (by simp [results, Tryd.results67, go_sem, d0, d1]) rfl ⟨rfl, ((HB.out.setCell (Nat.le_refl _) _).setCell (Nat.le_refl _) _)⟩

/-- a product, by the halves of what its factors are without a sign -/
theorem wide_hi {a b : Int} {ua ub : Nat} (ha : -9223372036854775808 ≤ a ∧ a ≤ 9223372036854775807) (hb : -9223372036854775808 ≤ b ∧ b ≤ 9223372036854775807)
    (h1 : (ua : Int) = if a < 0 then a + 18446744073709551616 else a) (h2 : (ub : Int) = if b < 0 then b + 18446744073709551616 else b) :
    (a * b) % 18446744073709551616 = (ua * ub % 18446744073709551616 : Nat) ∧
    (a * b) / 18446744073709551616 = (ua * ub / 18446744073709551616 : Nat) - (if a < 0 then (ub : Int) else 0) - (if b < 0 then (ua : Int) else 0) + (if a < 0 ∧ b < 0 then 18446744073709551616 else 0) ∧
    (-4611686018427387904 ≤ (a * b) / 18446744073709551616 ∧ (a * b) / 18446744073709551616 ≤ 4611686018427387904) := by
  have hm := mul_bound (A := 9223372036854775808) (B := 9223372036854775808) (a := a) (b := b) (by omega) (by omega)
  have hp : ((ua * ub : Nat) : Int) = (ua : Int) * (ub : Int) := Int.natCast_mul _ _
  rw [h1, h2] at hp
  generalize ua * ub = P at *
  by_cases sa : a < 0
  · by_cases sb : b < 0
    · simp only [sa, sb, if_true, and_self] at *
      have e : (a + 18446744073709551616) * (b + 18446744073709551616) = a * b + 18446744073709551616 * b + 18446744073709551616 * a + 340282366920938463463374607431768211456 := by
        rw [Int.add_mul, Int.mul_add, Int.mul_add]; omega
      rw [e] at hp
      generalize a * b = X at *
      omega
    · simp only [sa, sb, if_true, if_false, and_false] at *
      have e : (a + 18446744073709551616) * b = a * b + 18446744073709551616 * b := by rw [Int.add_mul]
      rw [e] at hp
      generalize a * b = X at *
      omega
  · by_cases sb : b < 0
    · simp only [sa, sb, if_true, if_false, false_and] at *
      have e : a * (b + 18446744073709551616) = a * b + 18446744073709551616 * a := by rw [Int.mul_add]; omega
      rw [e] at hp
      generalize a * b = X at *
      omega
    · simp only [sa, sb, if_false, false_and] at *
      generalize a * b = X at *
      omega
set_option maxRecDepth 100000 in
set_option maxHeartbeats 400000 in
theorem wtimes_any (a b : Int) (w : World) (ha : -9223372036854775808 ≤ a ∧ a ≤ 9223372036854775807) (hb : -9223372036854775808 ≤ b ∧ b ≤ 9223372036854775807) :
    Calls Tryd.prog 69 #[.int .i64 a, .int .i64 b] w fun e w' => e = .returned (wideW (a * b)) ∧ Below w.heap.size w w' := by
  obtain ⟨ua, h1⟩ : ∃ u : Nat, (u : Int) = if a < 0 then a + 18446744073709551616 else a := ⟨(if a < 0 then a + 18446744073709551616 else a).toNat, by split <;> omega⟩
  obtain ⟨ub, h2⟩ : ∃ u : Nat, (u : Int) = if b < 0 then b + 18446744073709551616 else b := ⟨(if b < 0 then b + 18446744073709551616 else b).toNat, by split <;> omega⟩
  obtain ⟨e1, e2, e3⟩ := wide_hi ha hb h1 h2
  have v1 : IntKind.u64.wrap a = (ua : Int) := by rw [IntKind.wrap_u64, h1]; split <;> omega
  have v2 : IntKind.u64.wrap b = (ub : Int) := by rw [IntKind.wrap_u64, h2]; split <;> omega
  have l1 : ua < 18446744073709551616 := by split at h1 <;> omega
  have l2 : ub < 18446744073709551616 := by split at h2 <;> omega
  have M := Lib.hid (fun w => mul64_any ua ub l1 l2 w)
  unfold wideW
  rw [e1]
  obtain ⟨hi, hh⟩ : ∃ hi, ua * ub / 18446744073709551616 = hi := ⟨_, rfl⟩
  obtain ⟨lo, hl⟩ : ∃ lo, ua * ub % 18446744073709551616 = lo := ⟨_, rfl⟩
  have hhl : hi < 18446744073709551616 := by
    rw [← hh]
    have : ua * ub < 18446744073709551616 * 18446744073709551616 := Nat.mul_lt_mul'' l1 l2
    omega
  rw [hh] at e2
  rw [hl]
  have M2 : ∀ w, Calls Tryd.prog 85 #[.int .u64 ua, .int .u64 ub] w fun e w' => e = .returned (.tuple #[.int .u64 (hi : Int), .int .u64 (lo : Int)]) ∧ w' = w := fun w => by
    have := M.out w
    rw [hh, hl] at this
    exact this
  generalize (a * b) / 18446744073709551616 = R at *
  clear M e1 hh hl
  have HM := Lib.hid M2
  clear M2
  have B0 := Lib.hid (show ∀ o, Below w.heap.size w (w.alloc o) from fun o => (Below.refl _ _).alloc (Nat.le_refl _) _)
  have HF := Lib.hid e2
  clear e2 h1 h2
  by_cases sa : a < 0
  · by_cases sb : b < 0
    · obtain ⟨t1, q1⟩ : ∃ t, IntKind.u64.wrap ((hi : Int) - ub) = t := ⟨_, rfl⟩
      obtain ⟨t2, q2⟩ : ∃ t, IntKind.u64.wrap (t1 - ua) = t := ⟨_, rfl⟩
      have q3 : IntKind.i64.wrap t2 = R := by
        have := HF.out
        simp only [sa, sb, if_true, and_self] at this
        rw [IntKind.wrap_u64] at q1 q2
        rw [IntKind.wrap_i64]
        omega
      go_enter Tryd.func69, Tryd.ntmps69
      go_wp2_with (go_at_call 85; refine (HM.out _).mono ?_; rintro e w1 ⟨rfl, rfl⟩)
      exact bodyPost_ret (v := .agg #[.int .i64 R, .int .u64 lo]) (by simp [results, Tryd.results69, go_sem]) rfl ⟨rfl, B0.out _⟩
    · obtain ⟨t1, q1⟩ : ∃ t, IntKind.u64.wrap ((hi : Int) - ub) = t := ⟨_, rfl⟩
      have q3 : IntKind.i64.wrap t1 = R := by
        have := HF.out
        simp only [sa, sb, if_true, if_false, and_false] at this
        rw [IntKind.wrap_u64] at q1
        rw [IntKind.wrap_i64]
        omega
      go_enter Tryd.func69, Tryd.ntmps69
      go_wp2_with (go_at_call 85; refine (HM.out _).mono ?_; rintro e w1 ⟨rfl, rfl⟩)
      exact bodyPost_ret (v := .agg #[.int .i64 R, .int .u64 lo]) (by simp [results, Tryd.results69, go_sem]) rfl ⟨rfl, B0.out _⟩
  · by_cases sb : b < 0
    · obtain ⟨t2, q2⟩ : ∃ t, IntKind.u64.wrap ((hi : Int) - ua) = t := ⟨_, rfl⟩
      have q3 : IntKind.i64.wrap t2 = R := by
        have := HF.out
        simp only [sa, sb, if_true, if_false, false_and] at this
        rw [IntKind.wrap_u64] at q2
        rw [IntKind.wrap_i64]
        omega
      go_enter Tryd.func69, Tryd.ntmps69
      go_wp2_with (go_at_call 85; refine (HM.out _).mono ?_; rintro e w1 ⟨rfl, rfl⟩)
      exact bodyPost_ret (v := .agg #[.int .i64 R, .int .u64 lo]) (by simp [results, Tryd.results69, go_sem]) rfl ⟨rfl, B0.out _⟩
    · have q3 : IntKind.i64.wrap (hi : Int) = R := by
        have := HF.out
        simp only [sa, sb, if_false, false_and] at this
        rw [IntKind.wrap_i64]
        omega
      go_enter Tryd.func69, Tryd.ntmps69
      go_wp2_with (go_at_call 85; refine (HM.out _).mono ?_; rintro e w1 ⟨rfl, rfl⟩)
      exact bodyPost_ret (v := .agg #[.int .i64 R, .int .u64 lo]) (by simp [results, Tryd.results69, go_sem]) rfl ⟨rfl, B0.out _⟩
end Go.Proofs.YtpejolnjnkcolaaDoor
