/-
  The program's search in a list that ascends.
-/
import Derived.Test.YtlhfbhkfmkcnjaaDoorFhA
namespace Go.Proofs.YtlhfbhkfmkcnjaaDoor
open Go Go.RowKit Go.Ev

theorem cmpNaN_any (x : Int) (w : World) : Calls Tryd.prog 159 #[.int .i64 x] w fun e w' => e = .returned (.bool false) ∧ w' = w := by
  go_enter Tryd.func159, Tryd.ntmps159
  go_wp2_with fail
  go_ret
  exact ⟨rfl, rfl⟩
theorem slNaN_any (x : Int) (w : World) : Calls Tryd.prog 137 #[.int .i64 x] w fun e w' => e = .returned (.bool false) ∧ w' = w := by
  go_enter Tryd.func137, Tryd.ntmps137
  go_wp2_with fail
  go_ret
  exact ⟨rfl, rfl⟩
theorem less_any (x y : Int) (w : World) : Calls Tryd.prog 136 #[.int .i64 x, .int .i64 y] w fun e w' => e = .returned (.bool (decide (x < y))) ∧ w' = w := by
  have C := Lib.hid (cmpNaN_any)
  go_enter Tryd.func136, Tryd.ntmps136
  go_wp2_with (go_at_call 159; refine (C.out _ _).mono ?_; rintro e w1 ⟨rfl, rfl⟩)
  go_ret
  exact ⟨rfl, rfl⟩
def SearchOk (xs : List Int) (n : Int) (w : World) (e : Ending) (w' : World) : Prop := ∃ r : Int, e = .returned (.tuple #[.int .i64 r, .bool (xs.contains n)]) ∧ Below w.heap.size w w'
set_option maxRecDepth 100000 in
set_option maxHeartbeats 4000000 in
theorem search_any (xs : List Int) (n : Int) (A : Option Addr) (c : Nat) (w : World) (ha : Ints w A xs) (hs : ascB xs = true) :
    Calls Tryd.prog 116 #[.slice A xs.length c, .int .i64 n] w (SearchOk xs n w) := by
  have hlx := ha.1
  have HA := Lib.hid ha.2.2
  have LT := Lib.hid (ascB_lt hs)
  have LS := Lib.hid less_any
  have NN := Lib.hid slNaN_any
  clear ha hs
  go_enter Tryd.func116, Tryd.ntmps116
  go_wp2_with fail
  go_loopw [7, 8, 9] (fun i j _ wr => ∃ (p q : Nat), p ≤ q ∧ q ≤ xs.length ∧ i = .int .i64 p ∧ j = .int .i64 q ∧ (∀ t (h : t < xs.length), t < p → xs[t] < n) ∧ (∀ t (h : t < xs.length), q ≤ t → n ≤ xs[t]) ∧ Below w.heap.size w wr) (fun i j _ _ => (intOf j).toNat - (intOf i).toNat)
  case atStart => exact ⟨0, xs.length, Nat.zero_le _, Nat.le_refl _, rfl, rfl, fun t _ h => absurd h (Nat.not_lt_zero _), fun t h h2 => by omega, Below.refl _ _⟩
  case round =>
    obtain ⟨p, q, hpq, hq, rfl, rfl, h1, h2, hbw⟩ := hrel
    have HH := Lib.hid (And.intro h1 (And.intro h2 hbw))
    clear h1 h2 hbw
    by_cases hlt : p < q
    · obtain ⟨b1, o1, rfl, hb1', g1⟩ := HA.out (by omega)
      have hm1 : p ≤ (p + q) / 2 := by omega
      have hm2 : (p + q) / 2 < q := by omega
      have hml : (p + q) / 2 < xs.length := by omega
      have x1 := (HH.out.2.2.cell (p := ⟨b1, o1 + (p + q) / 2, none⟩) hb1').trans (g1 ((p + q) / 2) hml)
      have z1 : ((p : Int) + (q : Int)) / 2 < (xs.length : Int) := by omega
      have z2 : (0 : Int) ≤ ((p : Int) + (q : Int)) / 2 := by omega
      have z3 : (p : Int) < (q : Int) := by omega
      have z4 : (((p : Int) + (q : Int)) / 2) = (((p + q) / 2 : Nat) : Int) := by omega
      obtain ⟨x, hx⟩ : ∃ x, xs[(p + q) / 2] = x := ⟨_, rfl⟩
      rw [hx] at x1
      have HX := Lib.hid hx
      have HM := Lib.hid (And.intro hm1 (And.intro hm2 z4))
      clear hx g1 HA z4 hm1 hm2
      by_cases hc : x < n
      · go_wp2_with (go_at_call 136; refine (LS.out _ _ _).mono ?_; rintro e w1 ⟨rfl, rfl⟩)
        go_roundw
        case rel =>
          obtain ⟨h1, h2, hb⟩ := HH.out
          obtain ⟨m1, m2, m3⟩ := HM.out
          refine ⟨(p + q) / 2 + 1, q, by omega, hq, by rw [m3]; go_num, rfl, fun t ht hlt => ?_, h2, hb⟩
          rcases Nat.lt_or_ge t ((p + q) / 2) with h | h
          · have := LT.out t ((p + q) / 2) h hml
            rw [HX.out] at this
            omega
          · obtain rfl : t = (p + q) / 2 := by omega
            rw [HX.out]; exact hc
        case measure =>
          obtain ⟨m1, m2, m3⟩ := HM.out
          simp [intOf]; omega
      · go_wp2_with (go_at_call 136; refine (LS.out _ _ _).mono ?_; rintro e w1 ⟨rfl, rfl⟩)
        go_roundw
        case rel =>
          obtain ⟨h1, h2, hb⟩ := HH.out
          obtain ⟨m1, m2, m3⟩ := HM.out
          refine ⟨p, (p + q) / 2, m1, by omega, rfl, by rw [m3], h1, fun t ht hge => ?_, hb⟩
          rcases Nat.lt_or_ge ((p + q) / 2) t with h | h
          · have := LT.out ((p + q) / 2) t h ht
            rw [HX.out] at this
            omega
          · obtain rfl : t = (p + q) / 2 := by omega
            rw [HX.out]; omega
        case measure =>
          obtain ⟨m1, m2, m3⟩ := HM.out
          simp [intOf]; omega
    · obtain rfl : p = q := by omega
      clear hlt hpq
      have z3 : ¬ (p : Int) < (p : Int) := by omega
      by_cases hp : p < xs.length
      · obtain ⟨b1, o1, rfl, hb1', g1⟩ := HA.out (by omega)
        have x1 := (HH.out.2.2.cell (p := ⟨b1, o1 + p, none⟩) hb1').trans (g1 p hp)
        have z1 : (p : Int) < (xs.length : Int) := by omega
        have z2 : (0 : Int) ≤ (p : Int) := by omega
        obtain ⟨x, hx⟩ : ∃ x, xs[p] = x := ⟨_, rfl⟩
        rw [hx] at x1
        have HX := Lib.hid hx
        clear hx g1 HA
        by_cases hc : x = n
        · have y1 : (x == n) = true := by simpa using hc
          have e : xs.contains n = true := by rw [List.contains_iff_mem, ← hc, ← HX.out]; exact List.getElem_mem hp
          have HE := Lib.hid e
          clear hc e
          go_wp2_with (go_at_call 137; refine (NN.out _ _).mono ?_; rintro e w1 ⟨rfl, rfl⟩)
          exact bodyPost_ret (v := .tuple #[.int .i64 p, .bool true]) (by simp [results, Tryd.results116, go_sem]) rfl (by unfold SearchOk; exact ⟨_, by rw [HE.out], HH.out.2.2⟩)
        · have y1 : (x == n) = false := by simpa using hc
          have e : xs.contains n = false := by
            rw [← Bool.not_eq_true, List.contains_iff_mem]
            intro hm
            obtain ⟨t, ht, e⟩ := List.getElem_of_mem hm
            obtain ⟨h1, h2, _⟩ := HH.out
            have hx := HX.out
            rcases Nat.lt_trichotomy t p with h | h | h
            · have := h1 t ht h; omega
            · subst h; omega
            · have := LT.out p t h ht
              have := h2 p hp (Nat.le_refl _)
              omega
          have HE := Lib.hid e
          clear hc e
          go_wp2_with (go_at_call 137; refine (NN.out _ _).mono ?_; rintro e w1 ⟨rfl, rfl⟩)
          exact bodyPost_ret (v := .tuple #[.int .i64 p, .bool false]) (by simp [results, Tryd.results116, go_sem]) rfl (by unfold SearchOk; exact ⟨_, by rw [HE.out], HH.out.2.2⟩)
      · have z1 : ¬ (p : Int) < (xs.length : Int) := by omega
        have e : xs.contains n = false := by
          rw [← Bool.not_eq_true, List.contains_iff_mem]
          intro hm
          obtain ⟨t, ht, e⟩ := List.getElem_of_mem hm
          have := HH.out.1 t ht (by omega)
          omega
        have HE := Lib.hid e
        clear e HA
        go_wp2_with (go_at_call 137; refine (NN.out _ _).mono ?_; rintro e w1 ⟨rfl, rfl⟩)
        exact bodyPost_ret (v := .tuple #[.int .i64 p, .bool false]) (by simp [results, Tryd.results116, go_sem]) rfl (by unfold SearchOk; exact ⟨_, by rw [HE.out], HH.out.2.2⟩)
theorem contains_any (xs : List Int) (n : Int) (A : Option Addr) (c : Nat) (w : World) (ha : Ints w A xs) (hs : ascB xs = true) :
    Calls Tryd.prog 86 #[.slice A xs.length c, .int .i64 n] w fun e w' => e = .returned (.bool (xs.contains n)) ∧ Below w.heap.size w w' := by
  have S := Lib.hid (show Calls Tryd.prog 116 #[.slice A xs.length c, .int .i64 n] w fun e w' => ∃ r : Int, e = .returned (.tuple #[.int .i64 r, .bool (xs.contains n)]) ∧ Below w.heap.size w w' from search_any xs n A c w ha hs)
  clear ha hs
  generalize xs.contains n = R at *
  generalize xs.length = m at *
  go_enter Tryd.func86, Tryd.ntmps86
  go_wp2_with (go_at_call 116; refine S.out.mono ?_; rintro e w1 ⟨r, rfl, hb⟩; have HB := Lib.hid hb; clear hb)
  go_ret
  exact ⟨rfl, HB.out⟩
end Go.Proofs.YtlhfbhkfmkcnjaaDoor
