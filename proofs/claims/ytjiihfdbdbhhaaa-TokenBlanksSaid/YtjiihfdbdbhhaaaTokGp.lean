/-
  The gaps of the law on blanks: plain words, and the function that hands them out.
-/
import Derived.Test.YtjiihfdbdbhhaaaTokAl
import Derived.Test.YtjiihfdbdbhhaaaTokTwo
import Derived.Deep.RegionHeld3
namespace Go.Proofs.Ytjiihfdbdbhhaaa
open Go.RowKit T

def gapL : Nat → List UInt8
  | 1 => [32]
  | 2 => [10]
  | 3 => [9, 13]
  | 4 => [47, 42, 97, 47, 42, 39, 42, 47, 98, 42, 47]
  | 5 => [37, 32, 39, 10]
  | 6 => [47, 42, 42, 42, 47]
  | 7 => [32, 47, 42, 32, 37, 32, 42, 47, 32]
  | _ => []
theorem gapL_le (k : Nat) : (gapL k).length ≤ 11 := by
  unfold gapL; split <;> simp
theorem Gap.nest {G : List UInt8} (h0 : G ≠ []) (h : ∀ X, nestedN (G ++ X) = G.length) (h1 : ∃ r, G = 47 :: r) : Gap G := by
  refine Gap.one h0 (fun X => ?_)
  obtain ⟨r, rfl⟩ := h1
  rw [List.cons_append, gapN_cons, if_neg (by decide), if_neg (by decide)]
  exact h X
theorem gapL_gap (k : Nat) : Gap (gapL k) := by
  unfold gapL
  split
  · exact Gap.bl (by decide)
  · exact Gap.bl (by decide)
  · exact Gap.app (A := [9]) (B := [13]) (Gap.bl (by decide)) (Gap.bl (by decide))
  · exact Gap.nest (by simp) (fun X => by rfl) ⟨_, rfl⟩
  · exact Gap.one (by simp) (fun X => by rfl)
  · exact Gap.nest (by simp) (fun X => by rfl) ⟨_, rfl⟩
  · refine Gap.app (A := [32]) (B := [47, 42, 32, 37, 32, 42, 47, 32]) (Gap.bl (by decide)) (Gap.app (A := [47, 42, 32, 37, 32, 42, 47]) (B := [32]) ?_ (Gap.bl (by decide)))
    exact Gap.nest (by simp) (fun X => by rfl) ⟨_, rfl⟩
  · exact Gap.nil
theorem gapL_head (k : Nat) : gapL k = [] ∨ ∃ c r, gapL k = c :: r ∧ ∀ X, endB (c :: X) = true := by
  unfold gapL
  split
  all_goals first | exact .inl rfl | exact .inr ⟨_, _, rfl, fun _ => rfl⟩
theorem gapL_skip (k : Nat) : skipN (gapL k) = (gapL k).length := by
  have := gapL_gap k []
  rw [List.append_nil] at this
  rw [this]; rfl

set_option maxHeartbeats 2000000 in
theorem gap_any (g : Int) (w : World) (h0 : 0 ≤ g) (h1 : g ≤ 255) :
    Calls Try.prog 31 #[.int .u8 g] w fun e w' => e = .returned (.string ⟨(gapL (g.toNat % 8)).toArray⟩) ∧ Below w.heap.size w w' := by
  have h8 : g % 8 = 0 ∨ g % 8 = 1 ∨ g % 8 = 2 ∨ g % 8 = 3 ∨ g % 8 = 4 ∨ g % 8 = 5 ∨ g % 8 = 6 ∨ g % 8 = 7 := by omega
  rcases h8 with h | h | h | h | h | h | h | h
  · have e : g.toNat % 8 = 0 := by omega
    rw [e]
    clear e
    go_enter Try.func31, Try.ntmps31
    go_wp2_with fail
    go_ret
    exact ⟨rfl, (Below.refl _ _).alloc (Nat.le_refl _) _⟩
  · have e : g.toNat % 8 = 1 := by omega
    rw [e]
    clear e
    go_enter Try.func31, Try.ntmps31
    go_wp2_with fail
    go_ret
    exact ⟨rfl, (Below.refl _ _).alloc (Nat.le_refl _) _⟩
  · have e : g.toNat % 8 = 2 := by omega
    rw [e]
    clear e
    go_enter Try.func31, Try.ntmps31
    go_wp2_with fail
    go_ret
    exact ⟨rfl, (Below.refl _ _).alloc (Nat.le_refl _) _⟩
  · have e : g.toNat % 8 = 3 := by omega
    rw [e]
    clear e
    go_enter Try.func31, Try.ntmps31
    go_wp2_with fail
    go_ret
    exact ⟨rfl, (Below.refl _ _).alloc (Nat.le_refl _) _⟩
  · have e : g.toNat % 8 = 4 := by omega
    rw [e]
    clear e
    go_enter Try.func31, Try.ntmps31
    go_wp2_with fail
    go_ret
    exact ⟨rfl, (Below.refl _ _).alloc (Nat.le_refl _) _⟩
  · have e : g.toNat % 8 = 5 := by omega
    rw [e]
    clear e
    go_enter Try.func31, Try.ntmps31
    go_wp2_with fail
    go_ret
    exact ⟨rfl, (Below.refl _ _).alloc (Nat.le_refl _) _⟩
  · have e : g.toNat % 8 = 6 := by omega
    rw [e]
    clear e
    go_enter Try.func31, Try.ntmps31
    go_wp2_with fail
    go_ret
    exact ⟨rfl, (Below.refl _ _).alloc (Nat.le_refl _) _⟩
  · have e : g.toNat % 8 = 7 := by omega
    rw [e]
    clear e
    go_enter Try.func31, Try.ntmps31
    go_wp2_with fail
    go_ret
    exact ⟨rfl, (Below.refl _ _).alloc (Nat.le_refl _) _⟩
end Go.Proofs.Ytjiihfdbdbhhaaa
