/-
  A word's mask.
-/
import Derived.Test.YtlhfbhkfmkcnjaaDoorDsG
import Derived.Laws.Bits64b
namespace Go.Proofs.YtlhfbhkfmkcnjaaDoor
open Go Go.RowKit Go.Ev

def mk (lo hi : Nat) : Nat := ((18446744073709551615 * 2 ^ lo) % 18446744073709551616) &&& (18446744073709551615 / 2 ^ (63 - hi))
theorem mk_lt (lo hi : Nat) : mk lo hi < 18446744073709551616 := Nat.lt_of_le_of_lt Nat.and_le_left (Nat.mod_lt _ (by decide))
theorem mk_test (lo hi t : Nat) (hh : hi < 64) (ht : t < 64) : (mk lo hi).testBit t = decide (lo ≤ t ∧ t ≤ hi) := by
  unfold mk
  rw [Nat.testBit_and, show (18446744073709551616 : Nat) = 2 ^ 64 by decide, Nat.testBit_mod_two_pow, Nat.testBit_mul_two_pow, Nat.testBit_div_two_pow, show (18446744073709551615 : Nat) = 2 ^ 64 - 1 by decide, Nat.testBit_two_pow_sub_one, Nat.testBit_two_pow_sub_one, decide_eq_true ht]
  by_cases h1 : lo ≤ t
  · by_cases h2 : t ≤ hi
    · simp [h1, h2]; omega
    · simp [h1, h2]; omega
  · simp [h1]
theorem mk_int (lo hi : Nat) : bits .and .u64 (IntKind.u64.wrap (18446744073709551615 * 2 ^ lo)) (18446744073709551615 / 2 ^ (63 - hi)) = (mk lo hi : Int) := by
  have e1 : IntKind.u64.wrap (18446744073709551615 * 2 ^ lo) = ((18446744073709551615 * 2 ^ lo % 18446744073709551616 : Nat) : Int) := by
    rw [IntKind.wrap_u64]; simp
  have e2 : (18446744073709551615 / 2 ^ (63 - hi) : Int) = ((18446744073709551615 / 2 ^ (63 - hi) : Nat) : Int) := by simp
  rw [e1, e2, bits_and_u64_nat _ _ (Nat.mod_lt _ (by decide)) (Nat.lt_of_le_of_lt (Nat.div_le_self _ _) (by decide))]
  rfl
theorem mk0 (hi : Nat) : bits .and .u64 18446744073709551615 (18446744073709551615 / 2 ^ (63 - hi)) = (mk 0 hi : Int) := by
  have h := mk_int 0 hi
  rwa [show IntKind.u64.wrap (18446744073709551615 * 2 ^ 0) = 18446744073709551615 from rfl] at h
theorem mk63 (lo : Nat) : bits .and .u64 (IntKind.u64.wrap (18446744073709551615 * 2 ^ lo)) 18446744073709551615 = (mk lo 63 : Int) := by
  have h := mk_int lo 63
  rwa [show (18446744073709551615 / 2 ^ (63 - 63) : Int) = 18446744073709551615 by decide] at h
theorem mk0_63 : bits .and .u64 18446744073709551615 18446744073709551615 = (mk 0 63 : Int) := by
  have h := mk63 0
  rwa [show IntKind.u64.wrap (18446744073709551615 * 2 ^ 0) = 18446744073709551615 from rfl] at h
/-- the bits of word k that stand for the numbers from a to b -/
def MaskOk (k : Nat) (a b : Int) (m : Nat) : Prop := m < 18446744073709551616 ∧ ∀ t : Nat, t < 64 → m.testBit t = decide (a ≤ 64 * k + t ∧ 64 * k + t ≤ b)
set_option maxHeartbeats 2000000 in
theorem mask_any (k : Nat) (a b : Int) (w : World) (hk : k < 16) (ha : 0 ≤ a) (hab : a ≤ b) (hb : b ≤ 1000) :
    Calls Tryd.prog 97 #[.int .i64 k, .int .i64 a, .int .i64 b] w fun e w' => ∃ m : Nat, e = .returned (.int .u64 m) ∧ MaskOk k a b m ∧ Below w.heap.size w w' := by
  by_cases q1 : a - 64 * k < 0
  · by_cases q2 : 63 < b - 64 * k
    · go_enter Tryd.func97, Tryd.ntmps97
      go_wp2_with fail
      go_quiet (fail)
      go_wp2_with fail
      go_ret
      refine ⟨mk 0 63, ?_, ⟨mk_lt _ _, fun t ht => by rw [mk_test _ _ _ (by omega) ht]; exact decide_eq_decide.2 (by omega)⟩, below_drewN (Below.refl _ _) _⟩
      rw [← mk0_63]; rfl
    · by_cases q3 : b - 64 * k < 0
      · go_enter Tryd.func97, Tryd.ntmps97
        go_wp2_with fail
        go_ret
        exact ⟨0, rfl, ⟨by decide, fun t ht => by rw [Nat.zero_testBit, eq_comm, decide_eq_false_iff_not]; omega⟩, Below.refl _ _⟩
      · go_enter Tryd.func97, Tryd.ntmps97
        go_wp2_with fail
        go_quiet (fail)
        go_wp2_with fail
        go_ret
        refine ⟨mk 0 (b - 64 * k).toNat, ?_, ⟨mk_lt _ _, fun t ht => by rw [mk_test _ _ _ (by omega) ht]; exact decide_eq_decide.2 (by omega)⟩, below_drewN (Below.refl _ _) _⟩
        rw [← mk0, show 63 - (b - 64 * (k : Int)).toNat = (63 - (b - 64 * (k : Int))).toNat by omega]; rfl
  · by_cases q2 : 63 < b - 64 * k
    · by_cases q3 : 63 < a - 64 * k
      · go_enter Tryd.func97, Tryd.ntmps97
        go_wp2_with fail
        go_ret
        exact ⟨0, rfl, ⟨by decide, fun t ht => by rw [Nat.zero_testBit, eq_comm, decide_eq_false_iff_not]; omega⟩, Below.refl _ _⟩
      · go_enter Tryd.func97, Tryd.ntmps97
        go_wp2_with fail
        go_quiet (fail)
        go_wp2_with fail
        go_ret
        refine ⟨mk (a - 64 * k).toNat 63, ?_, ⟨mk_lt _ _, fun t ht => by rw [mk_test _ _ _ (by omega) ht]; exact decide_eq_decide.2 (by omega)⟩, below_drewN (Below.refl _ _) _⟩
        rw [← mk63]; rfl
    · go_enter Tryd.func97, Tryd.ntmps97
      go_wp2_with fail
      go_quiet (fail)
      go_wp2_with fail
      go_ret
      refine ⟨mk (a - 64 * k).toNat (b - 64 * k).toNat, ?_, ⟨mk_lt _ _, fun t ht => by rw [mk_test _ _ _ (by omega) ht]; exact decide_eq_decide.2 (by omega)⟩, below_drewN (Below.refl _ _) _⟩
      rw [← mk_int, show 63 - (b - 64 * (k : Int)).toNat = (63 - (b - 64 * (k : Int))).toNat by omega]; rfl
end Go.Proofs.YtlhfbhkfmkcnjaaDoor
