/-
  Equal lists of ranges: the document's SameDom.
-/
import Derived.Test.YtjhlodbhchdkbaaGreatDoorDsA
import Derived.ChangeKeysEq
namespace Go.Proofs.YtjhlodbhchdkbaaGreatDoor
open Go Go.RowKit

theorem equalPair (a b c d : Int) (w : World) : (Op.equalIn 10000 38 (.agg #[.int .i64 a, .int .i64 b]) (.agg #[.int .i64 c, .int .i64 d])).run Tryz.prog w = .ok (a == c && b == d) w := by
  obtain ⟨i0, hi, hz0, hz1, hz2⟩ := info_parts infoI
  have hu : Tryz.prog.underlying 38 = some (.array 2 3) := by kernel_rfl
  have hc : Tryz.prog.cellsOf 3 = 1 := by kernel_rfl
  rw [run_equalIn_array _ 9999 _ _ hu hi]
  have ei : ∀ a b : Int, (Op.equalIn 9999 3 (.int .i64 a) (.int .i64 b)).run Tryz.prog w = .ok (a == b) w := fun a b => run_equalIn_int (P := Tryz.prog) w 9998 3 .i64 .i64 a b Tryz.underlying3
  have ai : (isAgg 3).run Tryz.prog w = .ok false w := by simp [isAgg, run_underlying Tryz.underlying3]
  have p0 : ∀ (n m : Int), (part 3 #[.int .i64 n, .int .i64 m] 0).run Tryz.prog w = .ok (.int .i64 n) w := fun n m => by simp [part, ai]
  have p1 : ∀ (n m : Int), (part 3 #[.int .i64 n, .int .i64 m] 1).run Tryz.prog w = .ok (.int .i64 m) w := fun n m => by simp [part, ai]
  rw [show List.range 2 = [0, 1] from rfl, hc]
  simp only [Op.eqItems, Nat.zero_mul, Nat.one_mul, Sem.run_bind, p0, ei, Result.andThen_ok]
  cases h : a == c
  · simp
  · simp only [Bool.not_true, Bool.false_eq_true, if_false, Sem.run_bind, p1, Result.andThen_ok, ei]
    cases h2 : b == d <;> simp
attribute [local go_sem] equalPair

set_option maxHeartbeats 4000000 in
theorem SameDom_any (xs ys : List (Int × Int)) (A B : Option Addr) (c1 c2 : Nat) (w : World) (ha : Pairs w A xs) (hb : Pairs w B ys) :
    Calls Tryz.prog 9 #[.slice A xs.length c1, .slice B ys.length c2] w fun e w' => e = .returned (.bool (decide (xs = ys))) ∧ Below w.heap.size w w' := by
  have hlx := ha.1
  have hly := hb.1
  have HA := Lib.hid ha.2.2
  have HB := Lib.hid hb.2.2
  clear ha hb
  obtain ⟨R, hR⟩ : ∃ R, decide (xs = ys) = R := ⟨_, rfl⟩
  rw [hR]
  have HR := Lib.hid hR
  clear hR
  by_cases hl : xs.length = ys.length
  · go_enter Tryz.func9, Tryz.ntmps9
    rw [← hl]
    have HLL := Lib.hid hl
    clear hl
    go_wp2_with fail
    go_loopw [5] (fun i wr => ∃ k : Nat, k ≤ xs.length ∧ i = .int .i64 k ∧ (∀ j (hj : j < k) (h1 : j < xs.length) (h2 : j < ys.length), xs[j] = ys[j]) ∧ Below w.heap.size w wr) (fun i _ => xs.length - (intOf i).toNat)
    case atStart => exact ⟨0, Nat.zero_le _, rfl, fun j hj => absurd hj (Nat.not_lt_zero _), Below.refl _ _⟩
    case round =>
      obtain ⟨k, hk, rfl, hall, hbw⟩ := hrel
      have HL := Lib.hid hall
      have HBW := Lib.hid hbw
      clear hall hbw
      by_cases hlt : k < xs.length
      · have hlt2 : k < ys.length := by rw [← HLL.out]; exact hlt
        obtain ⟨b1, o1, rfl, hb1', g1⟩ := HA.out (by omega)
        obtain ⟨b2, o2, rfl, hb2', g2⟩ := HB.out (by omega)
        have x1 := (HBW.out.cell (p := ⟨b1, o1 + k * 2, none⟩) hb1').trans (g1 k hlt).1
        have x2 := (HBW.out.cell (p := ⟨b2, o2 + k * 2, none⟩) hb2').trans (g2 k hlt2).1
        have y1 := (HBW.out.cell (p := ⟨b1, o1 + k * 2 + 1, none⟩) hb1').trans (g1 k hlt).2
        have y2 := (HBW.out.cell (p := ⟨b2, o2 + k * 2 + 1, none⟩) hb2').trans (g2 k hlt2).2
        have z1 : (k : Int) < (xs.length : Int) := by omega
        have z2 : (0 : Int) ≤ (k : Int) := by omega
        generalize hx : xs[k] = x at *
        generalize hy : ys[k] = y at *
        have HX := Lib.hid hx
        have HY := Lib.hid hy
        obtain ⟨xa, xb⟩ := x
        obtain ⟨ya, yb⟩ := y
        simp only at x1 x2 y1 y2
        clear g1 g2 HA HB hx hy
        by_cases hxy : xa = ya ∧ xb = yb
        · obtain ⟨rfl, rfl⟩ := hxy
          go_wp2_with fail
          go_region
          all_goals go_wp2_with fail
          go_roundw
          case rel =>
            refine ⟨k + 1, by omega, by go_num, fun j hj h1 h2 => ?_, below_drewN HBW.out _⟩
            rcases Nat.lt_or_ge j k with h | h
            · exact HL.out j h h1 h2
            · obtain rfl : j = k := by omega
              rw [HX.out, HY.out]
          case measure => simp [intOf]; omega
        · have q1 : (xa == ya && xb == yb) = false := by
            rw [← Bool.not_eq_true, Bool.and_eq_true, beq_iff_eq, beq_iff_eq]; exact hxy
          go_wp2_with fail
          go_region
          all_goals go_wp2_with fail
          go_ret
          obtain rfl : R = false := by
            rw [← HR.out, decide_eq_false_iff_not]
            rintro rfl
            exact hxy (by have := HX.out.symm.trans HY.out; simpa using this)
          exact ⟨rfl, below_drewN HBW.out _⟩
      · obtain rfl : k = xs.length := by omega
        clear HA HB
        go_wp2_with fail
        go_ret
        obtain rfl : R = true := by
          rw [← HR.out, decide_eq_true_eq]
          exact List.ext_getElem HLL.out fun j h1 h2 => HL.out j h1 h1 h2
        exact ⟨rfl, HBW.out⟩
  · have z1 : ¬ (xs.length : Int) = (ys.length : Int) := by omega
    obtain rfl : R = false := by
      rw [← HR.out, decide_eq_false_iff_not]
      rintro rfl
      exact hl rfl
    clear hl
    go_enter Tryz.func9, Tryz.ntmps9
    go_wp2_with fail
    go_ret
    exact ⟨rfl, Below.refl _ _⟩
end Go.Proofs.YtjhlodbhchdkbaaGreatDoor
