/-
  Words put together: what is in both, in one at least, in the first alone.
-/
import Derived.Test.YtlhfbhkfmkcnjaaDoorDsH
namespace Go.Proofs.YtlhfbhkfmkcnjaaDoor
open Go Go.RowKit Go.Ev

theorem bits_andNot_u64_nat (a b : Nat) (ha : a < 18446744073709551616) (hb : b < 18446744073709551616) :
    bits .andNot .u64 (a : Int) (b : Int) = ((a &&& (18446744073709551615 - b) : Nat) : Int) := by
  have hx : a &&& (18446744073709551615 - b) < 2 ^ 64 := Nat.lt_of_le_of_lt Nat.and_le_left (by omega)
  have h1 : (BitVec.ofInt 64 (a : Int)).toNat = a := by
    rw [BitVec.ofInt_natCast, BitVec.toNat_ofNat]; exact Nat.mod_eq_of_lt (by omega)
  have h2 : (BitVec.ofInt 64 (b : Int)).toNat = b := by
    rw [BitVec.ofInt_natCast, BitVec.toNat_ofNat]; exact Nat.mod_eq_of_lt (by omega)
  show IntKind.u64.wrap ((BitVec.ofInt 64 (a : Int) &&& ~~~ BitVec.ofInt 64 (b : Int)).toNat : Int) = _
  rw [BitVec.toNat_and, BitVec.toNat_not, h1, h2, IntKind.wrap_u64]
  have e : (2 ^ 64 - 1 - b : Nat) = 18446744073709551615 - b := by omega
  rw [e]
  omega
theorem not_bit (b t : Nat) (hb : b < 18446744073709551616) (ht : t < 64) : (18446744073709551615 - b).testBit t = !b.testBit t := by
  have h := Nat.testBit_two_pow_sub_succ (x := b) (n := 64) (by omega) t
  rw [show 2 ^ 64 - (b + 1) = 18446744073709551615 - b by omega] at h
  rw [h, decide_eq_true ht, Bool.true_and]
/-- what becomes of two words, bit by bit -/
def WordOk (f : Bool → Bool → Bool) (x y m : Nat) : Prop := m < 18446744073709551616 ∧ ∀ t : Nat, t < 64 → m.testBit t = f (x.testBit t) (y.testBit t)
theorem meet1_any (x y : Nat) (w : World) (hx : x < 18446744073709551616) (hy : y < 18446744073709551616) :
    Calls Tryd.prog 46 #[.int .u64 x, .int .u64 y] w fun e w' => ∃ m : Nat, e = .returned (.int .u64 m) ∧ WordOk (fun p q => p && q) x y m ∧ w' = w := by
  have e := bits_and_u64_nat x y hx hy
  go_enter Tryd.func46, Tryd.ntmps46
  go_wp2_with fail
  go_ret
  exact ⟨x &&& y, by first | rfl | (rw [← e]; rfl), ⟨Nat.lt_of_le_of_lt Nat.and_le_left hx, fun t _ => Nat.testBit_and ..⟩, rfl⟩
theorem join1_any (x y : Nat) (w : World) (hx : x < 18446744073709551616) (hy : y < 18446744073709551616) :
    Calls Tryd.prog 48 #[.int .u64 x, .int .u64 y] w fun e w' => ∃ m : Nat, e = .returned (.int .u64 m) ∧ WordOk (fun p q => p || q) x y m ∧ w' = w := by
  have e := bits_or_u64_nat x y hx hy
  go_enter Tryd.func48, Tryd.ntmps48
  go_wp2_with fail
  go_ret
  exact ⟨x ||| y, by first | rfl | (rw [← e]; rfl), ⟨Nat.or_lt_two_pow (n := 64) hx hy, fun t _ => Nat.testBit_or ..⟩, rfl⟩
theorem minus1_any (x y : Nat) (w : World) (hx : x < 18446744073709551616) (hy : y < 18446744073709551616) :
    Calls Tryd.prog 49 #[.int .u64 x, .int .u64 y] w fun e w' => ∃ m : Nat, e = .returned (.int .u64 m) ∧ WordOk (fun p q => p && !q) x y m ∧ w' = w := by
  have e := bits_andNot_u64_nat x y hx hy
  go_enter Tryd.func49, Tryd.ntmps49
  go_wp2_with fail
  go_ret
  exact ⟨x &&& (18446744073709551615 - y), by first | rfl | (rw [← e]; rfl), ⟨Nat.lt_of_le_of_lt Nat.and_le_left hx, fun t ht => by rw [Nat.testBit_and, not_bit y t hy ht]⟩, rfl⟩
end Go.Proofs.YtlhfbhkfmkcnjaaDoor
