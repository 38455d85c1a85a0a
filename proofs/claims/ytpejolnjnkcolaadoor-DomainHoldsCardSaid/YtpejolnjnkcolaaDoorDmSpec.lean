/-
  Sums of products, exactly: high and low parts.
-/
import Derived.WalkKit
namespace Go.Proofs.YtpejolnjnkcolaaDoor
open Go.RowKit

/-- the sum of the first k values of a function -/
def psum (g : Nat → Int) : Nat → Int
  | 0 => 0
  | k + 1 => psum g k + g k
theorem psum_bound {g : Nat → Int} {B : Int} : ∀ k : Nat, (∀ i, i < k → -B ≤ g i ∧ g i ≤ B) → -(k * B) ≤ psum g k ∧ psum g k ≤ k * B
  | 0, _ => by simp [psum]
  | k + 1, h => by
    obtain ⟨h1, h2⟩ := psum_bound k fun i hi => h i (by omega)
    obtain ⟨h3, h4⟩ := h k (by omega)
    have e : ((k + 1 : Nat) : Int) * B = k * B + B := by rw [Int.natCast_add, Int.add_mul]; simp
    simp only [psum, e]
    omega
theorem psum_congr {g h : Nat → Int} : ∀ k : Nat, (∀ i, i < k → g i = h i) → psum g k = psum h k
  | 0, _ => rfl
  | k + 1, e => by rw [psum, psum, psum_congr k fun i hi => e i (by omega), e k (by omega)]
/-- how a product parts into a high and a low one -/
theorem psum_parts {c v : Nat → Int} : ∀ k : Nat, psum (fun i => c i * v i) k = 4294967296 * psum (fun i => c i * (v i / 4294967296)) k + psum (fun i => c i * (v i % 4294967296)) k
  | 0 => by simp [psum]
  | k + 1 => by
    rw [psum, psum, psum, psum_parts k]
    have e : v k = 4294967296 * (v k / 4294967296) + v k % 4294967296 := by omega
    have : c k * v k = 4294967296 * (c k * (v k / 4294967296)) + c k * (v k % 4294967296) := by
      conv => lhs; rw [e]
      rw [Int.mul_add, Int.mul_left_comm]
    omega
theorem mul_bound {a b A B : Int} (ha : -A ≤ a ∧ a ≤ A) (hb : -B ≤ b ∧ b ≤ B) : -(A * B) ≤ a * b ∧ a * b ≤ A * B := by
  have hA : 0 ≤ A := by omega
  have hB : 0 ≤ B := by omega
  have h1 : a.natAbs ≤ A.natAbs := by omega
  have h2 : b.natAbs ≤ B.natAbs := by omega
  have h3 := Nat.mul_le_mul h1 h2
  have h4 : (a * b).natAbs = a.natAbs * b.natAbs := Int.natAbs_mul a b
  have h5 : ((A.natAbs * B.natAbs : Nat) : Int) = A * B := by rw [Int.natCast_mul]; rw [Int.natAbs_of_nonneg hA, Int.natAbs_of_nonneg hB]
  omega
/-- three ways of order -/
def sgn (x : Int) : Int := if x = 0 then 0 else if x < 0 then -1 else 1
end Go.Proofs.YtpejolnjnkcolaaDoor
