/-
  Whether all numbers of a list pass a test: the program's own answers.
-/
import Derived.Test.YtpejolnjnkcolaaDoorHpA
import Derived.Test.YtpejolnjnkcolaaDoorDmD
import Derived.Test.YtpejolnjnkcolaaDoorDmE
namespace Go.Proofs.YtpejolnjnkcolaaDoor
open Go Go.RowKit

def inB (N : Int) (x : Int) : Bool := decide (0 ≤ x ∧ x < N)
def coefB (x : Int) : Bool := decide (-1000000 ≤ x ∧ x ≤ 1000000)
theorem isMany_any (n : Int) (w : World) : Calls Tryd.prog 80 #[.int .i64 n] w fun e w' => e = .returned (.bool (decide (1 ≤ n ∧ n ≤ 40))) ∧ w' = w := by
  by_cases h : 1 ≤ n
  · have e : decide (1 ≤ n ∧ n ≤ 40) = decide (n ≤ 40) := decide_eq_decide.2 (by omega)
    rw [e]
    go_enter Tryd.func80, Tryd.ntmps80
    go_wp2_with fail
    go_ret
    exact ⟨rfl, rfl⟩
  · have e : decide (1 ≤ n ∧ n ≤ 40) = false := decide_eq_false (by omega)
    rw [e]
    have h2 : n < 1 := by omega
    clear h e
    go_enter Tryd.func80, Tryd.ntmps80
    go_wp2_with fail
    go_ret
    exact ⟨rfl, rfl⟩
theorem isCoef_any (n : Int) (w : World) : Calls Tryd.prog 62 #[.int .i64 n] w fun e w' => e = .returned (.bool (coefB n)) ∧ w' = w := by
  unfold coefB
  by_cases h : -1000000 ≤ n
  · have e : decide (-1000000 ≤ n ∧ n ≤ 1000000) = decide (n ≤ 1000000) := decide_eq_decide.2 (by omega)
    rw [e]
    go_enter Tryd.func62, Tryd.ntmps62
    go_wp2_with fail
    go_ret
    exact ⟨rfl, rfl⟩
  · have e : decide (-1000000 ≤ n ∧ n ≤ 1000000) = false := decide_eq_false (by omega)
    rw [e]
    have h2 : n < -1000000 := by omega
    clear h e
    go_enter Tryd.func62, Tryd.ntmps62
    go_wp2_with fail
    go_ret
    exact ⟨rfl, rfl⟩
theorem inRange_any (x N : Int) (nb : Nat) (w : World) (hc : w.cell? ⟨nb, 0, none⟩ = some (.int .i64 N)) : Calls Tryd.prog 60 #[.int .i64 x, .pointer (some ⟨nb, 0, none⟩)] w fun e w' => e = .returned (.bool (inB N x)) ∧ w' = w := by
  unfold inB
  by_cases h : 0 ≤ x
  · have e : decide (0 ≤ x ∧ x < N) = decide (x < N) := decide_eq_decide.2 (by omega)
    rw [e]
    go_enter Tryd.func60, Tryd.ntmps60
    go_wp2_with fail
    go_ret
    exact ⟨rfl, rfl⟩
  · have e : decide (0 ≤ x ∧ x < N) = false := decide_eq_false (by omega)
    rw [e]
    have h2 : x < 0 := by omega
    clear h e
    go_enter Tryd.func60, Tryd.ntmps60
    go_wp2_with fail
    go_ret
    exact ⟨rfl, rfl⟩

/-! ### coef -/
theorem not_coef (x : Int) (fb : Nat) (w : World) (hf : w.cell? ⟨fb, 0, none⟩ = some (.func (.func 62) #[] #[])) : Calls Tryd.prog 83 #[.int .i64 x, .pointer (some ⟨fb, 0, none⟩)] w fun e w' => e = .returned (.bool (!coefB x)) ∧ w' = w := by
  have C := Lib.hid (isCoef_any x w)
  generalize coefB x = r at *
  go_enter Tryd.func83, Tryd.ntmps83
  go_wp2_with (go_at_call 62; refine C.out.mono ?_; rintro e w1 ⟨rfl, rfl⟩)
  go_ret
  exact ⟨rfl, rfl⟩
set_option maxHeartbeats 1000000 in
theorem index_coef (xs : List Int) (A : Option Addr) (c1 : Nat) (fb : Nat) (w : World) (ha : Ints w A xs) (hf : w.cell? ⟨fb, 0, none⟩ = some (.func (.func 62) #[] #[])) :
    Calls Tryd.prog 95 #[.slice A xs.length c1, .func (.func 83) #[] #[.pointer (some ⟨fb, 0, none⟩)]] w fun e w' => ∃ r : Int, e = .returned (.int .i64 r) ∧ decide (0 ≤ r) = (xs.any fun x => !coefB x) ∧ w' = w := by
  have hlx := ha.1
  have HA := Lib.hid ha.2.2
  have C := Lib.hid (fun x => not_coef x fb w hf)
  go_enter Tryd.func95, Tryd.ntmps95
  go_wp2_with fail
  go_loopw [5, 8] (fun _ i wr => ∃ k : Nat, k ≤ xs.length ∧ i = .int .i64 k ∧ (∀ j (hj : j < k) (hl : j < xs.length), coefB xs[j] = true) ∧ wr = w) (fun _ i _ => xs.length - (intOf i).toNat)
  case atStart => exact ⟨0, Nat.zero_le _, rfl, fun j hj => absurd hj (Nat.not_lt_zero _), rfl⟩
  case round =>
    obtain ⟨k, hk, rfl, hall, rfl⟩ := hrel
    have HL := Lib.hid hall
    clear hall
    by_cases hlt : k < xs.length
    · obtain ⟨b1, o1, rfl, hb1', g1⟩ := HA.out (by omega)
      have x1 := g1 k hlt
      have C2 := Lib.hid (C.out xs[k])
      have z1 : (k : Int) < (xs.length : Int) := by omega
      have z2 : (0 : Int) ≤ (k : Int) := by omega
      generalize hx : xs[k] = x at *
      have HX := Lib.hid hx
      clear g1 HA C hx
      cases hp : coefB x with
      | true =>
        rw [hp] at C2
        go_wp2_with (go_at_call 83; refine C2.out.mono ?_; rintro e w1 ⟨rfl, rfl⟩)
        go_roundw
        case rel =>
          refine ⟨k + 1, by omega, by go_num, fun j hj hl => ?_, by first | rfl | trivial⟩
          rcases Nat.lt_or_ge j k with h | h
          · exact HL.out j h hl
          · obtain rfl : j = k := by omega
            rw [HX.out]; exact hp
        case measure => simp [intOf]; omega
      | false =>
        rw [hp] at C2
        go_wp2_with (go_at_call 83; refine C2.out.mono ?_; rintro e w1 ⟨rfl, rfl⟩)
        go_ret
        refine ⟨_, rfl, ?_, rfl⟩
        rw [decide_eq_true (by omega)]
        symm
        rw [List.any_eq_true]
        exact ⟨x, by rw [← HX.out]; exact List.getElem_mem _, by rw [hp]; rfl⟩
    · obtain rfl : k = xs.length := by omega
      clear HA C
      go_wp2_with fail
      go_ret
      refine ⟨_, rfl, ?_, rfl⟩
      rw [decide_eq_false (by omega)]
      symm
      rw [List.any_eq_false]
      intro x hx
      obtain ⟨j, hj, rfl⟩ := List.getElem_of_mem hx
      rw [HL.out j hj hj]; simp
theorem contains_coef (xs : List Int) (A : Option Addr) (c1 : Nat) (fb : Nat) (w : World) (ha : Ints w A xs) (hf : w.cell? ⟨fb, 0, none⟩ = some (.func (.func 62) #[] #[])) :
    Calls Tryd.prog 82 #[.slice A xs.length c1, .func (.func 83) #[] #[.pointer (some ⟨fb, 0, none⟩)]] w fun e w' => e = .returned (.bool (xs.any fun x => !coefB x)) ∧ w' = w := by
  have C := Lib.hid (index_coef xs A c1 fb w ha hf)
  generalize (xs.any fun x => !coefB x) = R at *
  go_enter Tryd.func82, Tryd.ntmps82
  go_wp2_with (go_at_call 95; refine C.out.mono ?_; rintro e w1 ⟨r, rfl, hr, rfl⟩)
  go_ret
  exact ⟨by rw [← hr]; rfl, rfl⟩
theorem all_coef (xs : List Int) (A : Option Addr) (c1 : Nat) (w : World) (ha : Ints w A xs) :
    Calls Tryd.prog 61 #[.slice A xs.length c1, .func (.func 62) #[] #[]] w fun e w' => e = .returned (.bool (xs.all coefB)) ∧ Below w.heap.size w w' := by
  have B0 := Lib.hid (show ∀ o, Below w.heap.size w (w.alloc o) from fun o => (Below.refl _ _).alloc (Nat.le_refl _) _)
  have C := Lib.hid (contains_coef xs A c1 w.heap.size (w.alloc (.cells #[.func (.func 62) #[] #[]] 78)) (ha.over (B0.out _)) (by simp [go_sem]))
  have e : xs.all coefB = !(xs.any fun x => !coefB x) := by rw [List.any_eq_not_all_not]; simp
  rw [e]
  generalize (xs.any fun x => !coefB x) = R at *
  go_enter Tryd.func61, Tryd.ntmps61
  go_wp2_with (go_at_call 82; refine C.out.mono ?_; rintro e w1 ⟨rfl, rfl⟩)
  go_ret
  exact ⟨rfl, B0.out _⟩

/-! ### range -/
theorem not_range (x : Int) (N : Int) (nb : Nat) (fb : Nat) (w : World) (hf : w.cell? ⟨fb, 0, none⟩ = some (.func (.func 60) #[] #[.pointer (some ⟨nb, 0, none⟩)])) (hnb : w.cell? ⟨nb, 0, none⟩ = some (.int .i64 N)) : Calls Tryd.prog 83 #[.int .i64 x, .pointer (some ⟨fb, 0, none⟩)] w fun e w' => e = .returned (.bool (!(inB N) x)) ∧ w' = w := by
  have C := Lib.hid (inRange_any x N nb w hnb)
  generalize (inB N) x = r at *
  go_enter Tryd.func83, Tryd.ntmps83
  go_wp2_with (go_at_call 60; refine C.out.mono ?_; rintro e w1 ⟨rfl, rfl⟩)
  go_ret
  exact ⟨rfl, rfl⟩
set_option maxHeartbeats 1000000 in
theorem index_range (xs : List Int) (A : Option Addr) (c1 : Nat) (N : Int) (nb : Nat) (fb : Nat) (w : World) (ha : Ints w A xs) (hf : w.cell? ⟨fb, 0, none⟩ = some (.func (.func 60) #[] #[.pointer (some ⟨nb, 0, none⟩)])) (hnb : w.cell? ⟨nb, 0, none⟩ = some (.int .i64 N)) :
    Calls Tryd.prog 95 #[.slice A xs.length c1, .func (.func 83) #[] #[.pointer (some ⟨fb, 0, none⟩)]] w fun e w' => ∃ r : Int, e = .returned (.int .i64 r) ∧ decide (0 ≤ r) = (xs.any fun x => !(inB N) x) ∧ w' = w := by
  have hlx := ha.1
  have HA := Lib.hid ha.2.2
  have C := Lib.hid (fun x => not_range x N nb fb w hf hnb)
  go_enter Tryd.func95, Tryd.ntmps95
  go_wp2_with fail
  go_loopw [5, 8] (fun _ i wr => ∃ k : Nat, k ≤ xs.length ∧ i = .int .i64 k ∧ (∀ j (hj : j < k) (hl : j < xs.length), (inB N) xs[j] = true) ∧ wr = w) (fun _ i _ => xs.length - (intOf i).toNat)
  case atStart => exact ⟨0, Nat.zero_le _, rfl, fun j hj => absurd hj (Nat.not_lt_zero _), rfl⟩
  case round =>
    obtain ⟨k, hk, rfl, hall, rfl⟩ := hrel
    have HL := Lib.hid hall
    clear hall
    by_cases hlt : k < xs.length
    · obtain ⟨b1, o1, rfl, hb1', g1⟩ := HA.out (by omega)
      have x1 := g1 k hlt
      have C2 := Lib.hid (C.out xs[k])
      have z1 : (k : Int) < (xs.length : Int) := by omega
      have z2 : (0 : Int) ≤ (k : Int) := by omega
      generalize hx : xs[k] = x at *
      have HX := Lib.hid hx
      clear g1 HA C hx
      cases hp : (inB N) x with
      | true =>
        rw [hp] at C2
        go_wp2_with (go_at_call 83; refine C2.out.mono ?_; rintro e w1 ⟨rfl, rfl⟩)
        go_roundw
        case rel =>
          refine ⟨k + 1, by omega, by go_num, fun j hj hl => ?_, by first | rfl | trivial⟩
          rcases Nat.lt_or_ge j k with h | h
          · exact HL.out j h hl
          · obtain rfl : j = k := by omega
            rw [HX.out]; exact hp
        case measure => simp [intOf]; omega
      | false =>
        rw [hp] at C2
        go_wp2_with (go_at_call 83; refine C2.out.mono ?_; rintro e w1 ⟨rfl, rfl⟩)
        go_ret
        refine ⟨_, rfl, ?_, rfl⟩
        rw [decide_eq_true (by omega)]
        symm
        rw [List.any_eq_true]
        exact ⟨x, by rw [← HX.out]; exact List.getElem_mem _, by rw [hp]; rfl⟩
    · obtain rfl : k = xs.length := by omega
      clear HA C
      go_wp2_with fail
      go_ret
      refine ⟨_, rfl, ?_, rfl⟩
      rw [decide_eq_false (by omega)]
      symm
      rw [List.any_eq_false]
      intro x hx
      obtain ⟨j, hj, rfl⟩ := List.getElem_of_mem hx
      rw [HL.out j hj hj]; simp
theorem contains_range (xs : List Int) (A : Option Addr) (c1 : Nat) (N : Int) (nb : Nat) (fb : Nat) (w : World) (ha : Ints w A xs) (hf : w.cell? ⟨fb, 0, none⟩ = some (.func (.func 60) #[] #[.pointer (some ⟨nb, 0, none⟩)])) (hnb : w.cell? ⟨nb, 0, none⟩ = some (.int .i64 N)) :
    Calls Tryd.prog 82 #[.slice A xs.length c1, .func (.func 83) #[] #[.pointer (some ⟨fb, 0, none⟩)]] w fun e w' => e = .returned (.bool (xs.any fun x => !(inB N) x)) ∧ w' = w := by
  have C := Lib.hid (index_range xs A c1 N nb fb w ha hf hnb)
  generalize (xs.any fun x => !(inB N) x) = R at *
  go_enter Tryd.func82, Tryd.ntmps82
  go_wp2_with (go_at_call 95; refine C.out.mono ?_; rintro e w1 ⟨r, rfl, hr, rfl⟩)
  go_ret
  exact ⟨by rw [← hr]; rfl, rfl⟩
theorem all_range (xs : List Int) (A : Option Addr) (c1 : Nat) (N : Int) (nb : Nat) (w : World) (ha : Ints w A xs) (hnb : w.cell? ⟨nb, 0, none⟩ = some (.int .i64 N)) (hlt : nb < w.heap.size) :
    Calls Tryd.prog 61 #[.slice A xs.length c1, .func (.func 60) #[] #[.pointer (some ⟨nb, 0, none⟩)]] w fun e w' => e = .returned (.bool (xs.all (inB N))) ∧ Below w.heap.size w w' := by
  have B0 := Lib.hid (show ∀ o, Below w.heap.size w (w.alloc o) from fun o => (Below.refl _ _).alloc (Nat.le_refl _) _)
  have C := Lib.hid (contains_range xs A c1 N nb w.heap.size (w.alloc (.cells #[.func (.func 60) #[] #[.pointer (some ⟨nb, 0, none⟩)]] 78)) (ha.over (B0.out _)) (by simp [go_sem]) (((B0.out _).cell (p := ⟨nb, 0, none⟩) hlt).trans hnb))
  have e : xs.all (inB N) = !(xs.any fun x => !(inB N) x) := by rw [List.any_eq_not_all_not]; simp
  rw [e]
  generalize (xs.any fun x => !(inB N) x) = R at *
  go_enter Tryd.func61, Tryd.ntmps61
  go_wp2_with (go_at_call 82; refine C.out.mono ?_; rintro e w1 ⟨rfl, rfl⟩)
  go_ret
  exact ⟨rfl, B0.out _⟩
end Go.Proofs.YtpejolnjnkcolaaDoor
