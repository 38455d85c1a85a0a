/-
  Plain facts on quoted texts.
-/
import Derived.Test.YtnfmfofialoioaaGreatDoorTokM
namespace Go.Proofs.YtnfmfofialoioaaGreatDoor.T

def esc (m c : UInt8) : List UInt8 := if (c == m || c == 92) = true then [92, c] else if (c == 10) = true then [92, 110] else [c]
def encP (m : UInt8) (l : List UInt8) : List UInt8 := m :: l.flatMap (esc m)
def encL (m : UInt8) (l : List UInt8) : List UInt8 := encP m l ++ [m]

theorem esc_le (m c : UInt8) : (esc m c).length ≤ 2 := by unfold esc; split <;> (try split) <;> simp
theorem flat_le (m : UInt8) (l : List UInt8) : (l.flatMap (esc m)).length ≤ 2 * l.length := by
  induction l with
  | nil => simp
  | cons a l ih => simp only [List.flatMap_cons, List.length_append, List.length_cons]; have := esc_le m a; omega
theorem encP_le (m : UInt8) (l : List UInt8) : (encP m l).length ≤ 2 * l.length + 1 := by
  unfold encP; simp only [List.length_cons]; have := flat_le m l; omega
theorem encP_snoc (m : UInt8) (l : List UInt8) (c : UInt8) : encP m (l ++ [c]) = encP m l ++ esc m c := by
  simp [encP]
theorem take_snoc (s : ByteArray) (k : Nat) (h : k < s.size) : s.data.toList.take (k + 1) = s.data.toList.take k ++ [s[k]] := by
  rw [List.take_succ_eq_append_getElem (by simpa using h)]; rfl
end Go.Proofs.YtnfmfofialoioaaGreatDoor.T
