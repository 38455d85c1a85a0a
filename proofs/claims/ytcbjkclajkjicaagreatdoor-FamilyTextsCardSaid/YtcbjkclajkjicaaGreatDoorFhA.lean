/-
  Lists of numbers: which ascend, and what is in them; both sides' words.
-/
import Derived.Test.YtcbjkclajkjicaaGreatDoorDsZ
namespace Go.Proofs.YtcbjkclajkjicaaGreatDoor
open Go Go.RowKit Go.Ev

/-- whether numbers ascend -/
def ascB : List Int → Bool
  | [] => true
  | [_] => true
  | x :: y :: r => decide (x < y) && ascB (y :: r)
theorem ascB_step {xs : List Int} {k : Nat} (h : k + 1 < xs.length) : ascB (xs.drop k) = (decide (xs[k] < xs[k + 1]) && ascB (xs.drop (k + 1))) := by
  rw [List.drop_eq_getElem_cons (show k < xs.length by omega), List.drop_eq_getElem_cons h]
  rfl
theorem ascB_last {xs : List Int} {k : Nat} (h : xs.length ≤ k + 1) : ascB (xs.drop k) = true := by
  by_cases h2 : k < xs.length
  · rw [List.drop_eq_getElem_cons h2, List.drop_eq_nil_of_le (by omega)]; rfl
  · rw [List.drop_eq_nil_of_le (by omega)]; rfl
theorem ascB_lt {xs : List Int} (h : ascB xs = true) : ∀ i j (hi : i < j) (hj : j < xs.length), xs[i] < xs[j] := by
  intro i j hi hj
  have key : ∀ k, k < xs.length → ascB (xs.drop k) = true := by
    intro k
    induction k with
    | zero => intro _; simpa using h
    | succ k ih =>
      intro hk
      have := ih (by omega)
      rw [ascB_step hk, Bool.and_eq_true] at this
      exact this.2
  induction j with
  | zero => omega
  | succ j ih =>
    have := key j (by omega)
    rw [ascB_step hj, Bool.and_eq_true, decide_eq_true_eq] at this
    rcases Nat.lt_or_ge i j with h1 | h1
    · have := ih h1 (by omega); omega
    · obtain rfl : i = j := by omega
      exact this.1
set_option maxRecDepth 100000 in
set_option maxHeartbeats 2000000 in
theorem ascending_any (xs : List Int) (A : Option Addr) (c : Nat) (w : World) (ha : Ints w A xs) :
    Calls Tryz.prog 67 #[.slice A xs.length c] w fun e w' => e = .returned (.bool (ascB xs)) ∧ Below w.heap.size w w' := by
  have hlx := ha.1
  have HA := Lib.hid ha.2.2
  clear ha
  go_enter Tryz.func67, Tryz.ntmps67
  go_wp2_with fail
  go_loopw [3] (fun i wr => ∃ k : Nat, i = .int .i64 (k + 1 : Nat) ∧ ascB xs = ascB (xs.drop k) ∧ Below w.heap.size w wr) (fun i _ => xs.length - (intOf i).toNat)
  case atStart => exact ⟨0, rfl, by simp, Below.refl _ _⟩
  case round =>
    obtain ⟨k, rfl, has, hbw⟩ := hrel
    have HBW := Lib.hid hbw
    clear hbw
    by_cases hlt : k + 1 < xs.length
    · obtain ⟨b1, o1, rfl, hb1', g1⟩ := HA.out (by omega)
      have x1 := (HBW.out.cell (p := ⟨b1, o1 + k, none⟩) hb1').trans (g1 k (by omega))
      have x2 := (HBW.out.cell (p := ⟨b1, o1 + (k + 1), none⟩) hb1').trans (g1 (k + 1) hlt)
      rw [ascB_step hlt] at has
      have HS := Lib.hid has
      have z1 : ((k : Int) + 1) < (xs.length : Int) := by omega
      have z2 : (0 : Int) ≤ (k : Int) := by omega
      have z3 : (k : Int) + 1 - 1 = k := by omega
      have z4 : (k : Int) < (xs.length : Int) := by omega
      have z5 : ((k : Int) + 1).toNat = k + 1 := by omega
      have z6 : ((k + 1 : Nat) : Int) = (k : Int) + 1 := by omega
      clear g1 HA has
      generalize xs[k] = p at *
      generalize xs[k + 1] = q at *
      rw [z6]
      by_cases hpq : p < q
      · have y2 : decide (q ≤ p) = false := decide_eq_false (by omega)
        go_wp2_with fail
        go_quiet (fail)
        go_wp2_with fail
        go_roundw
        case rel => exact ⟨k + 1, by go_num, by rw [HS.out, decide_eq_true hpq]; rfl, HBW.out.trans ⟨rfl, rfl, rfl, Nat.le_refl _, fun _ _ => rfl⟩⟩
        case measure => simp [intOf]; omega
      · have y2 : decide (q ≤ p) = true := decide_eq_true (by omega)
        go_wp2_with fail
        go_quiet (fail)
        go_wp2_with fail
        go_ret
        exact ⟨by rw [HS.out, decide_eq_false (show ¬ p < q by omega)]; rfl, HBW.out.trans ⟨rfl, rfl, rfl, Nat.le_refl _, fun _ _ => rfl⟩⟩
    · have hl := ascB_last (xs := xs) (k := k) (by omega)
      rw [hl] at has
      have HS := Lib.hid has
      have z1 : ¬ ((k : Int) + 1) < (xs.length : Int) := by omega
      have z6 : ((k + 1 : Nat) : Int) = (k : Int) + 1 := by omega
      rw [z6]
      clear has HA
      go_wp2_with fail
      go_ret
      exact ⟨by rw [HS.out]; rfl, HBW.out⟩
set_option maxRecDepth 100000 in
set_option maxHeartbeats 2000000 in
theorem ascends_any (xs : List Int) (A : Option Addr) (c : Nat) (w : World) (ha : Ints w A xs) :
    Calls Tryz.prog 86 #[.slice A xs.length c] w fun e w' => e = .returned (.bool (ascB xs)) ∧ Below w.heap.size w w' := by
  have hlx := ha.1
  have HA := Lib.hid ha.2.2
  clear ha
  go_enter Tryz.func86, Tryz.ntmps86
  go_wp2_with fail
  go_loopw [3, 7] (fun _ i wr => ∃ k : Nat, k ≤ xs.length ∧ i = .int .i64 k ∧ ascB xs = ascB (xs.drop k) ∧ Below w.heap.size w wr) (fun _ i _ => xs.length - (intOf i).toNat)
  case atStart => exact ⟨0, Nat.zero_le _, rfl, by simp, Below.refl _ _⟩
  case round =>
    obtain ⟨k, hk, rfl, has, hbw⟩ := hrel
    have HBW := Lib.hid hbw
    clear hbw
    by_cases hlt : k + 1 < xs.length
    · obtain ⟨b1, o1, rfl, hb1', g1⟩ := HA.out (by omega)
      have x1 := (HBW.out.cell (p := ⟨b1, o1 + k, none⟩) hb1').trans (g1 k (by omega))
      have x2 := (HBW.out.cell (p := ⟨b1, o1 + (k + 1), none⟩) hb1').trans (g1 (k + 1) hlt)
      rw [ascB_step hlt] at has
      have HS := Lib.hid has
      have z1 : (k : Int) < (xs.length : Int) - 1 := by omega
      have z2 : (0 : Int) ≤ (k : Int) := by omega
      have z4 : (k : Int) < (xs.length : Int) := by omega
      have z5 : ((k : Int) + 1).toNat = k + 1 := by omega
      have z6 : (k : Int) + 1 < (xs.length : Int) := by omega
      clear g1 HA has
      generalize xs[k] = p at *
      generalize xs[k + 1] = q at *
      by_cases hpq : p < q
      · have y2 : decide (q ≤ p) = false := decide_eq_false (by omega)
        go_wp2_with fail
        go_quiet (fail)
        go_wp2_with fail
        go_roundw
        case rel => exact ⟨k + 1, by omega, by go_num, by rw [HS.out, decide_eq_true hpq]; rfl, HBW.out.trans ⟨rfl, rfl, rfl, Nat.le_refl _, fun _ _ => rfl⟩⟩
        case measure => simp [intOf]; omega
      · have y2 : decide (q ≤ p) = true := decide_eq_true (by omega)
        go_wp2_with fail
        go_quiet (fail)
        go_wp2_with fail
        go_ret
        exact ⟨by rw [HS.out, decide_eq_false (show ¬ p < q by omega)]; rfl, HBW.out.trans ⟨rfl, rfl, rfl, Nat.le_refl _, fun _ _ => rfl⟩⟩
    · have hl := ascB_last (xs := xs) (k := k) (by omega)
      rw [hl] at has
      have HS := Lib.hid has
      have z1 : ¬ (k : Int) < (xs.length : Int) - 1 := by omega
      clear has HA
      go_wp2_with fail
      go_ret
      exact ⟨by rw [HS.out]; rfl, HBW.out⟩
end Go.Proofs.YtcbjkclajkjicaaGreatDoor
