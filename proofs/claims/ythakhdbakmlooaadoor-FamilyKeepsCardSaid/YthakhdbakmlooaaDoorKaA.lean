/-
  How slices of integers lie; the ground of the texts about domains.
-/
import Derived.Test.YthakhdbakmlooaaDoorRows
import Derived.Handy
import Derived.Deep.RegionHeld3
import Derived.Lib.Hide
import Derived.WalkLawsBesides
import Derived.IntWalk
import Derived.Deep.QuietTactic
import Derived.BigQuiet
import Derived.WalkSmall
import Derived.OneCell
import Derived.Test.YthakhdbakmlooaaDoorEvM7
namespace Go.Proofs.YthakhdbakmlooaaDoor
open Go Go.RowKit Go.Ev

/-- a slice of integers that lies in a world -/
def Ints (w : World) (A : Option Addr) (xs : List Int) : Prop := xs.length ≤ 1000000 ∧ (∀ x ∈ xs, -9223372036854775808 ≤ x ∧ x ≤ 9223372036854775807) ∧
  (0 < xs.length → ∃ b off, A = some ⟨b, off, none⟩ ∧ b < w.heap.size ∧ ∀ i (h : i < xs.length), w.cell? ⟨b, off + i, none⟩ = some (.int .i64 xs[i]))
theorem Ints.over {w w' : World} {A : Option Addr} {xs : List Int} (h : Ints w A xs) (k : Below w.heap.size w w') : Ints w' A xs :=
  ⟨h.1, h.2.1, fun hp => by
    obtain ⟨b, off, e, hb, hc⟩ := h.2.2 hp
    exact ⟨b, off, e, Nat.lt_of_lt_of_le hb k.size, fun i hi => (k.cell (p := ⟨b, off + i, none⟩) hb).trans (hc i hi)⟩⟩
theorem infoI : (Tryd.prog.info? 3).map (fun i => (i.zero, i.size, i.bytes)) = some (some (.int .i64 0), 1, 8) := by kernel_rfl
theorem lr2 {φ : Pm} {x y : Value} {l : List Value} (h : LR φ [x, y] l) : ∃ x' y', l = [x', y'] ∧ VR φ x x' ∧ VR φ y y' := by
  obtain ⟨a, b, rfl⟩ : ∃ a b, l = [a, b] := by
    have hl := h.1
    rcases l with _ | ⟨a, _ | ⟨b, _ | ⟨d, l⟩⟩⟩ <;> simp at hl
    exact ⟨a, b, rfl⟩
  obtain ⟨h1, h⟩ := h.cons_inv
  exact ⟨a, b, rfl, h1, h.cons_inv.1⟩
end Go.Proofs.YthakhdbakmlooaaDoor

/-
  Lists of numbers: which ascend, and what is in them; both sides' words.
-/
namespace Go.Proofs.YthakhdbakmlooaaDoor
open Go Go.RowKit Go.Ev

/-- whether numbers ascend -/
def ascB : List Int → Bool
  | [] => true
  | [_] => true
  | x :: y :: r => decide (x < y) && ascB (y :: r)
theorem ascB_step {xs : List Int} {k : Nat} (h : k + 1 < xs.length) : ascB (xs.drop k) = (decide (xs[k] < xs[k + 1]) && ascB (xs.drop (k + 1))) := by
  rw [List.drop_eq_getElem_cons (show k < xs.length by omega), List.drop_eq_getElem_cons h]
  rfl
theorem ascB_last {xs : List Int} {k : Nat} (h : xs.length ≤ k + 1) : ascB (xs.drop k) = true := by
  by_cases h2 : k < xs.length
  · rw [List.drop_eq_getElem_cons h2, List.drop_eq_nil_of_le (by omega)]; rfl
  · rw [List.drop_eq_nil_of_le (by omega)]; rfl
theorem ascB_lt {xs : List Int} (h : ascB xs = true) : ∀ i j (hi : i < j) (hj : j < xs.length), xs[i] < xs[j] := by
  intro i j hi hj
  have key : ∀ k, k < xs.length → ascB (xs.drop k) = true := by
    intro k
    induction k with
    | zero => intro _; simpa using h
    | succ k ih =>
      intro hk
      have := ih (by omega)
      rw [ascB_step hk, Bool.and_eq_true] at this
      exact this.2
  induction j with
  | zero => omega
  | succ j ih =>
    have := key j (by omega)
    rw [ascB_step hj, Bool.and_eq_true, decide_eq_true_eq] at this
    rcases Nat.lt_or_ge i j with h1 | h1
    · have := ih h1 (by omega); omega
    · obtain rfl : i = j := by omega
      exact this.1
set_option maxRecDepth 100000 in
set_option maxHeartbeats 2000000 in
theorem ascending_any (xs : List Int) (A : Option Addr) (c : Nat) (w : World) (ha : Ints w A xs) :
    Calls Tryd.prog 58 #[.slice A xs.length c] w fun e w' => e = .returned (.bool (ascB xs)) ∧ Below w.heap.size w w' := by
  have hlx := ha.1
  have HA := Lib.hid ha.2.2
  clear ha
  go_enter Tryd.func58, Tryd.ntmps58
  go_wp2_with fail
  go_loopw [3] (fun i wr => ∃ k : Nat, i = .int .i64 (k + 1 : Nat) ∧ ascB xs = ascB (xs.drop k) ∧ Below w.heap.size w wr) (fun i _ => xs.length - (intOf i).toNat)
  case atStart => exact ⟨0, rfl, by simp, Below.refl _ _⟩
  case round =>
    obtain ⟨k, rfl, has, hbw⟩ := hrel
    have HBW := Lib.hid hbw
    clear hbw
    by_cases hlt : k + 1 < xs.length
    · obtain ⟨b1, o1, rfl, hb1', g1⟩ := HA.out (by omega)
      have x1 := (HBW.out.cell (p := ⟨b1, o1 + k, none⟩) hb1').trans (g1 k (by omega))
      have x2 := (HBW.out.cell (p := ⟨b1, o1 + (k + 1), none⟩) hb1').trans (g1 (k + 1) hlt)
      rw [ascB_step hlt] at has
      have HS := Lib.hid has
      have z1 : ((k : Int) + 1) < (xs.length : Int) := by omega
      have z2 : (0 : Int) ≤ (k : Int) := by omega
      have z3 : (k : Int) + 1 - 1 = k := by omega
      have z4 : (k : Int) < (xs.length : Int) := by omega
      have z5 : ((k : Int) + 1).toNat = k + 1 := by omega
      have z6 : ((k + 1 : Nat) : Int) = (k : Int) + 1 := by omega
      clear g1 HA has
      generalize xs[k] = p at *
      generalize xs[k + 1] = q at *
      rw [z6]
      by_cases hpq : p < q
      · have y2 : decide (q ≤ p) = false := decide_eq_false (by omega)
        go_wp2_with fail
        go_quiet (fail)
        go_wp2_with fail
        go_roundw
        case rel => exact ⟨k + 1, by go_num, by rw [HS.out, decide_eq_true hpq]; rfl, HBW.out.trans ⟨rfl, rfl, rfl, Nat.le_refl _, fun _ _ => rfl⟩⟩
        case measure => simp [intOf]; omega
      · have y2 : decide (q ≤ p) = true := decide_eq_true (by omega)
        go_wp2_with fail
        go_quiet (fail)
        go_wp2_with fail
        go_ret
        exact ⟨by rw [HS.out, decide_eq_false (show ¬ p < q by omega)]; rfl, HBW.out.trans ⟨rfl, rfl, rfl, Nat.le_refl _, fun _ _ => rfl⟩⟩
    · have hl := ascB_last (xs := xs) (k := k) (by omega)
      rw [hl] at has
      have HS := Lib.hid has
      have z1 : ¬ ((k : Int) + 1) < (xs.length : Int) := by omega
      have z6 : ((k + 1 : Nat) : Int) = (k : Int) + 1 := by omega
      rw [z6]
      clear has HA
      go_wp2_with fail
      go_ret
      exact ⟨by rw [HS.out]; rfl, HBW.out⟩
set_option maxRecDepth 100000 in
set_option maxHeartbeats 2000000 in
theorem ascends_any (xs : List Int) (A : Option Addr) (c : Nat) (w : World) (ha : Ints w A xs) :
    Calls Tryd.prog 53 #[.slice A xs.length c] w fun e w' => e = .returned (.bool (ascB xs)) ∧ Below w.heap.size w w' := by
  have hlx := ha.1
  have HA := Lib.hid ha.2.2
  clear ha
  go_enter Tryd.func53, Tryd.ntmps53
  go_wp2_with fail
  go_loopw [3, 7] (fun _ i wr => ∃ k : Nat, k ≤ xs.length ∧ i = .int .i64 k ∧ ascB xs = ascB (xs.drop k) ∧ Below w.heap.size w wr) (fun _ i _ => xs.length - (intOf i).toNat)
  case atStart => exact ⟨0, Nat.zero_le _, rfl, by simp, Below.refl _ _⟩
  case round =>
    obtain ⟨k, hk, rfl, has, hbw⟩ := hrel
    have HBW := Lib.hid hbw
    clear hbw
    by_cases hlt : k + 1 < xs.length
    · obtain ⟨b1, o1, rfl, hb1', g1⟩ := HA.out (by omega)
      have x1 := (HBW.out.cell (p := ⟨b1, o1 + k, none⟩) hb1').trans (g1 k (by omega))
      have x2 := (HBW.out.cell (p := ⟨b1, o1 + (k + 1), none⟩) hb1').trans (g1 (k + 1) hlt)
      rw [ascB_step hlt] at has
      have HS := Lib.hid has
      have z1 : (k : Int) < (xs.length : Int) - 1 := by omega
      have z2 : (0 : Int) ≤ (k : Int) := by omega
      have z4 : (k : Int) < (xs.length : Int) := by omega
      have z5 : ((k : Int) + 1).toNat = k + 1 := by omega
      have z6 : (k : Int) + 1 < (xs.length : Int) := by omega
      clear g1 HA has
      generalize xs[k] = p at *
      generalize xs[k + 1] = q at *
      by_cases hpq : p < q
      · have y2 : decide (q ≤ p) = false := decide_eq_false (by omega)
        go_wp2_with fail
        go_quiet (fail)
        go_wp2_with fail
        go_roundw
        case rel => exact ⟨k + 1, by omega, by go_num, by rw [HS.out, decide_eq_true hpq]; rfl, HBW.out.trans ⟨rfl, rfl, rfl, Nat.le_refl _, fun _ _ => rfl⟩⟩
        case measure => simp [intOf]; omega
      · have y2 : decide (q ≤ p) = true := decide_eq_true (by omega)
        go_wp2_with fail
        go_quiet (fail)
        go_wp2_with fail
        go_ret
        exact ⟨by rw [HS.out, decide_eq_false (show ¬ p < q by omega)]; rfl, HBW.out.trans ⟨rfl, rfl, rfl, Nat.le_refl _, fun _ _ => rfl⟩⟩
    · have hl := ascB_last (xs := xs) (k := k) (by omega)
      rw [hl] at has
      have HS := Lib.hid has
      have z1 : ¬ (k : Int) < (xs.length : Int) - 1 := by omega
      clear has HA
      go_wp2_with fail
      go_ret
      exact ⟨by rw [HS.out]; rfl, HBW.out⟩
set_option maxHeartbeats 2000000 in
theorem has_any (xs : List Int) (n : Int) (A : Option Addr) (c : Nat) (w : World) (ha : Ints w A xs) :
    Calls Tryd.prog 60 #[.slice A xs.length c, .int .i64 n] w fun e w' => e = .returned (.bool (xs.contains n)) ∧ Below w.heap.size w w' := by
  have hlx := ha.1
  have HA := Lib.hid ha.2.2
  clear ha
  go_enter Tryd.func60, Tryd.ntmps60
  go_wp2_with fail
  go_loopw [5] (fun i wr => ∃ k : Nat, k ≤ xs.length ∧ i = .int .i64 k ∧ xs.contains n = (xs.drop k).contains n ∧ Below w.heap.size w wr) (fun i _ => xs.length - (intOf i).toNat)
  case atStart => exact ⟨0, Nat.zero_le _, rfl, by simp, Below.refl _ _⟩
  case round =>
    obtain ⟨k, hk, rfl, has, hbw⟩ := hrel
    have HBW := Lib.hid hbw
    clear hbw
    by_cases hlt : k < xs.length
    · obtain ⟨b1, o1, rfl, hb1', g1⟩ := HA.out (by omega)
      have x1 := (HBW.out.cell (p := ⟨b1, o1 + k, none⟩) hb1').trans (g1 k hlt)
      rw [List.drop_eq_getElem_cons hlt, List.contains_cons] at has
      have HS := Lib.hid has
      have z1 : (k : Int) < (xs.length : Int) := by omega
      have z2 : (0 : Int) ≤ (k : Int) := by omega
      clear g1 HA has
      generalize xs[k] = p at *
      by_cases hpq : p = n
      · have y2 : (p == n) = true := by simpa using hpq
        have HP := Lib.hid hpq
        clear hpq
        go_wp2_with fail
        go_ret
        exact ⟨by rw [HS.out, HP.out]; simp, HBW.out⟩
      · have y2 : (p == n) = false := by simpa using hpq
        have HP := Lib.hid (show (n == p) = false by simpa using fun e => hpq e.symm)
        clear hpq
        go_wp2_with fail
        go_roundw
        case rel => exact ⟨k + 1, by omega, by go_num, by rw [HS.out, HP.out]; rfl, HBW.out⟩
        case measure => simp [intOf]; omega
    · obtain rfl : k = xs.length := by omega
      rw [List.drop_length] at has
      have HS := Lib.hid has
      clear has HA
      go_wp2_with fail
      go_ret
      exact ⟨by rw [HS.out]; rfl, HBW.out⟩
set_option maxHeartbeats 2000000 in
theorem inAll_any (xs ys : List Int) (is : Bool) (A B : Option Addr) (c1 c2 : Nat) (w : World) (ha : Ints w A xs) (hb : Ints w B ys) :
    Calls Tryd.prog 59 #[.slice A xs.length c1, .slice B ys.length c2, .bool is] w fun e w' => e = .returned (.bool (xs.all fun x => ys.contains x == is)) ∧ Below w.heap.size w w' := by
  have hlx := ha.1
  have HA := Lib.hid ha.2.2
  have HC := Lib.hid (fun n w1 (h : Below w.heap.size w w1) => has_any ys n B c2 w1 (hb.over h))
  clear ha hb
  go_enter Tryd.func59, Tryd.ntmps59
  go_wp2_with fail
  go_loopw [7] (fun i wr => ∃ k : Nat, k ≤ xs.length ∧ i = .int .i64 k ∧ (xs.all fun x => ys.contains x == is) = ((xs.drop k).all fun x => ys.contains x == is) ∧ Below w.heap.size w wr) (fun i _ => xs.length - (intOf i).toNat)
  case atStart => exact ⟨0, Nat.zero_le _, rfl, by simp, Below.refl _ _⟩
  case round =>
    obtain ⟨k, hk, rfl, has, hbw⟩ := hrel
    have HBW := Lib.hid hbw
    clear hbw
    by_cases hlt : k < xs.length
    · obtain ⟨b1, o1, rfl, hb1', g1⟩ := HA.out (by omega)
      have x1 := (HBW.out.cell (p := ⟨b1, o1 + k, none⟩) hb1').trans (g1 k hlt)
      rw [List.drop_eq_getElem_cons hlt, List.all_cons] at has
      have HS := Lib.hid has
      have z1 : (k : Int) < (xs.length : Int) := by omega
      have z2 : (0 : Int) ≤ (k : Int) := by omega
      clear g1 HA has
      generalize xs[k] = p at *
      have HC2 := Lib.hid (HC.out p wr HBW.out)
      obtain ⟨R, hR⟩ : ∃ R, ys.contains p = R := ⟨_, rfl⟩
      rw [hR] at HC2 HS
      clear HC hR
      cases R <;> cases is
      all_goals
        (go_wp2_with (go_at_call 60; refine HC2.out.mono ?_; rintro e w1 ⟨rfl, hb⟩; have HB := Lib.hid (HBW.out.trans (hb.mono HBW.out.size)); clear hb)
         first
         | (go_ret
            exact ⟨by rw [HS.out]; rfl, HB.out⟩)
         | (go_roundw
            case rel => exact ⟨k + 1, by omega, by go_num, by rw [HS.out]; rfl, HB.out⟩
            case measure => simp [intOf]; omega))
    · obtain rfl : k = xs.length := by omega
      rw [List.drop_length] at has
      have HS := Lib.hid has
      clear has HA HC
      go_wp2_with fail
      go_ret
      exact ⟨by rw [HS.out]; rfl, HBW.out⟩
end Go.Proofs.YthakhdbakmlooaaDoor

/-
  The program's search in a list that ascends.
-/
namespace Go.Proofs.YthakhdbakmlooaaDoor
open Go Go.RowKit Go.Ev

theorem cmpNaN_any (x : Int) (w : World) : Calls Tryd.prog 100 #[.int .i64 x] w fun e w' => e = .returned (.bool false) ∧ w' = w := by
  go_enter Tryd.func100, Tryd.ntmps100
  go_wp2_with fail
  go_ret
  exact ⟨rfl, rfl⟩
theorem slNaN_any (x : Int) (w : World) : Calls Tryd.prog 88 #[.int .i64 x] w fun e w' => e = .returned (.bool false) ∧ w' = w := by
  go_enter Tryd.func88, Tryd.ntmps88
  go_wp2_with fail
  go_ret
  exact ⟨rfl, rfl⟩
theorem less_any (x y : Int) (w : World) : Calls Tryd.prog 87 #[.int .i64 x, .int .i64 y] w fun e w' => e = .returned (.bool (decide (x < y))) ∧ w' = w := by
  have C := Lib.hid (cmpNaN_any)
  go_enter Tryd.func87, Tryd.ntmps87
  go_wp2_with (go_at_call 100; refine (C.out _ _).mono ?_; rintro e w1 ⟨rfl, rfl⟩)
  go_ret
  exact ⟨rfl, rfl⟩
def SearchOk (xs : List Int) (n : Int) (w : World) (e : Ending) (w' : World) : Prop := ∃ r : Int, e = .returned (.tuple #[.int .i64 r, .bool (xs.contains n)]) ∧ Below w.heap.size w w'
set_option maxRecDepth 100000 in
set_option maxHeartbeats 4000000 in
theorem search_any (xs : List Int) (n : Int) (A : Option Addr) (c : Nat) (w : World) (ha : Ints w A xs) (hs : ascB xs = true) :
    Calls Tryd.prog 76 #[.slice A xs.length c, .int .i64 n] w (SearchOk xs n w) := by
  have hlx := ha.1
  have HA := Lib.hid ha.2.2
  have LT := Lib.hid (ascB_lt hs)
  have LS := Lib.hid less_any
  have NN := Lib.hid slNaN_any
  clear ha hs
  go_enter Tryd.func76, Tryd.ntmps76
  go_wp2_with fail
  go_loopw [7, 8, 9] (fun i j _ wr => ∃ (p q : Nat), p ≤ q ∧ q ≤ xs.length ∧ i = .int .i64 p ∧ j = .int .i64 q ∧ (∀ t (h : t < xs.length), t < p → xs[t] < n) ∧ (∀ t (h : t < xs.length), q ≤ t → n ≤ xs[t]) ∧ Below w.heap.size w wr) (fun i j _ _ => (intOf j).toNat - (intOf i).toNat)
  case atStart => exact ⟨0, xs.length, Nat.zero_le _, Nat.le_refl _, rfl, rfl, fun t _ h => absurd h (Nat.not_lt_zero _), fun t h h2 => by omega, Below.refl _ _⟩
  case round =>
    obtain ⟨p, q, hpq, hq, rfl, rfl, h1, h2, hbw⟩ := hrel
    have HH := Lib.hid (And.intro h1 (And.intro h2 hbw))
    clear h1 h2 hbw
    by_cases hlt : p < q
    · obtain ⟨b1, o1, rfl, hb1', g1⟩ := HA.out (by omega)
      have hm1 : p ≤ (p + q) / 2 := by omega
      have hm2 : (p + q) / 2 < q := by omega
      have hml : (p + q) / 2 < xs.length := by omega
      have x1 := (HH.out.2.2.cell (p := ⟨b1, o1 + (p + q) / 2, none⟩) hb1').trans (g1 ((p + q) / 2) hml)
      have z1 : ((p : Int) + (q : Int)) / 2 < (xs.length : Int) := by omega
      have z2 : (0 : Int) ≤ ((p : Int) + (q : Int)) / 2 := by omega
      have z3 : (p : Int) < (q : Int) := by omega
      have z4 : (((p : Int) + (q : Int)) / 2) = (((p + q) / 2 : Nat) : Int) := by omega
      obtain ⟨x, hx⟩ : ∃ x, xs[(p + q) / 2] = x := ⟨_, rfl⟩
      rw [hx] at x1
      have HX := Lib.hid hx
      have HM := Lib.hid (And.intro hm1 (And.intro hm2 z4))
      clear hx g1 HA z4 hm1 hm2
      by_cases hc : x < n
      · go_wp2_with (go_at_call 87; refine (LS.out _ _ _).mono ?_; rintro e w1 ⟨rfl, rfl⟩)
        go_roundw
        case rel =>
          obtain ⟨h1, h2, hb⟩ := HH.out
          obtain ⟨m1, m2, m3⟩ := HM.out
          refine ⟨(p + q) / 2 + 1, q, by omega, hq, by rw [m3]; go_num, rfl, fun t ht hlt => ?_, h2, hb⟩
          rcases Nat.lt_or_ge t ((p + q) / 2) with h | h
          · have := LT.out t ((p + q) / 2) h hml
            rw [HX.out] at this
            omega
          · obtain rfl : t = (p + q) / 2 := by omega
            rw [HX.out]; exact hc
        case measure =>
          obtain ⟨m1, m2, m3⟩ := HM.out
          simp [intOf]; omega
      · go_wp2_with (go_at_call 87; refine (LS.out _ _ _).mono ?_; rintro e w1 ⟨rfl, rfl⟩)
        go_roundw
        case rel =>
          obtain ⟨h1, h2, hb⟩ := HH.out
          obtain ⟨m1, m2, m3⟩ := HM.out
          refine ⟨p, (p + q) / 2, m1, by omega, rfl, by rw [m3], h1, fun t ht hge => ?_, hb⟩
          rcases Nat.lt_or_ge ((p + q) / 2) t with h | h
          · have := LT.out ((p + q) / 2) t h ht
            rw [HX.out] at this
            omega
          · obtain rfl : t = (p + q) / 2 := by omega
            rw [HX.out]; omega
        case measure =>
          obtain ⟨m1, m2, m3⟩ := HM.out
          simp [intOf]; omega
    · obtain rfl : p = q := by omega
      clear hlt hpq
      have z3 : ¬ (p : Int) < (p : Int) := by omega
      by_cases hp : p < xs.length
      · obtain ⟨b1, o1, rfl, hb1', g1⟩ := HA.out (by omega)
        have x1 := (HH.out.2.2.cell (p := ⟨b1, o1 + p, none⟩) hb1').trans (g1 p hp)
        have z1 : (p : Int) < (xs.length : Int) := by omega
        have z2 : (0 : Int) ≤ (p : Int) := by omega
        obtain ⟨x, hx⟩ : ∃ x, xs[p] = x := ⟨_, rfl⟩
        rw [hx] at x1
        have HX := Lib.hid hx
        clear hx g1 HA
        by_cases hc : x = n
        · have y1 : (x == n) = true := by simpa using hc
          have e : xs.contains n = true := by rw [List.contains_iff_mem, ← hc, ← HX.out]; exact List.getElem_mem hp
          have HE := Lib.hid e
          clear hc e
          go_wp2_with (go_at_call 88; refine (NN.out _ _).mono ?_; rintro e w1 ⟨rfl, rfl⟩)
          exact bodyPost_ret (v := .tuple #[.int .i64 p, .bool true]) (by simp [results, Tryd.results76, go_sem]) rfl (by unfold SearchOk; exact ⟨_, by rw [HE.out], HH.out.2.2⟩)
        · have y1 : (x == n) = false := by simpa using hc
          have e : xs.contains n = false := by
            rw [← Bool.not_eq_true, List.contains_iff_mem]
            intro hm
            obtain ⟨t, ht, e⟩ := List.getElem_of_mem hm
            obtain ⟨h1, h2, _⟩ := HH.out
            have hx := HX.out
            rcases Nat.lt_trichotomy t p with h | h | h
            · have := h1 t ht h; omega
            · subst h; omega
            · have := LT.out p t h ht
              have := h2 p hp (Nat.le_refl _)
              omega
          have HE := Lib.hid e
          clear hc e
          go_wp2_with (go_at_call 88; refine (NN.out _ _).mono ?_; rintro e w1 ⟨rfl, rfl⟩)
          exact bodyPost_ret (v := .tuple #[.int .i64 p, .bool false]) (by simp [results, Tryd.results76, go_sem]) rfl (by unfold SearchOk; exact ⟨_, by rw [HE.out], HH.out.2.2⟩)
      · have z1 : ¬ (p : Int) < (xs.length : Int) := by omega
        have e : xs.contains n = false := by
          rw [← Bool.not_eq_true, List.contains_iff_mem]
          intro hm
          obtain ⟨t, ht, e⟩ := List.getElem_of_mem hm
          have := HH.out.1 t ht (by omega)
          omega
        have HE := Lib.hid e
        clear e HA
        go_wp2_with (go_at_call 88; refine (NN.out _ _).mono ?_; rintro e w1 ⟨rfl, rfl⟩)
        exact bodyPost_ret (v := .tuple #[.int .i64 p, .bool false]) (by simp [results, Tryd.results76, go_sem]) rfl (by unfold SearchOk; exact ⟨_, by rw [HE.out], HH.out.2.2⟩)
theorem contains_any (xs : List Int) (n : Int) (A : Option Addr) (c : Nat) (w : World) (ha : Ints w A xs) (hs : ascB xs = true) :
    Calls Tryd.prog 57 #[.slice A xs.length c, .int .i64 n] w fun e w' => e = .returned (.bool (xs.contains n)) ∧ Below w.heap.size w w' := by
  have S := Lib.hid (show Calls Tryd.prog 76 #[.slice A xs.length c, .int .i64 n] w fun e w' => ∃ r : Int, e = .returned (.tuple #[.int .i64 r, .bool (xs.contains n)]) ∧ Below w.heap.size w w' from search_any xs n A c w ha hs)
  clear ha hs
  generalize xs.contains n = R at *
  generalize xs.length = m at *
  go_enter Tryd.func57, Tryd.ntmps57
  go_wp2_with (go_at_call 76; refine S.out.mono ?_; rintro e w1 ⟨r, rfl, hb⟩; have HB := Lib.hid hb; clear hb)
  go_ret
  exact ⟨rfl, HB.out⟩
end Go.Proofs.YthakhdbakmlooaaDoor
