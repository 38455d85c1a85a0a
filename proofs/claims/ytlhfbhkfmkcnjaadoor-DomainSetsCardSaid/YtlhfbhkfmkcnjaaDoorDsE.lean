/-
  The document's size and membership; equal lists of integers.
-/
import Derived.Test.YtlhfbhkfmkcnjaaDoorDsD
namespace Go.Proofs.YtlhfbhkfmkcnjaaDoor
open Go.RowKit

set_option maxHeartbeats 1000000 in
theorem Size_r_any (d : List (Int × Int)) (A : Option Addr) (c : Nat) (w : World) (ha : Pairs w A d) :
    Calls Tryd.prog 24 #[.slice A d.length c] w fun e w' => e = .returned (.int .i64 (szV d)) ∧ Below w.heap.size w w' := by
  have C := Lib.hid (Values_r_any d A c w ha)
  have e : ((valsV d).length : Int) = szV d := by
    unfold valsV szV
    by_cases h : vd 0 d = true
    · rw [if_pos h, if_pos h]; exact (vd_sz (by omega) h).2.2
    · rw [if_neg h, if_neg h]; rfl
  rw [← e]
  clear e
  generalize (valsV d) = L at *
  go_enter Tryd.func24, Tryd.ntmps24
  go_wp2_with (go_at_call 20; refine C.out.mono ?_; rintro e w1 ⟨G, cap, rfl, ho, hb⟩; have HB := Lib.hid hb; clear hb ho)
  go_ret
  exact ⟨rfl, HB.out⟩

set_option maxHeartbeats 4000000 in
theorem Has_r_any (d : List (Int × Int)) (v : Int) (A : Option Addr) (c : Nat) (w : World) (ha : Pairs w A d) :
    Calls Tryd.prog 22 #[.slice A d.length c, .int .i64 v] w fun e w' => e = .returned (.bool (hasV d v)) ∧ Below w.heap.size w w' := by
  have C := Lib.hid (fun (w1 : World) (hb : Below w.heap.size w w1) => Valid_r_any d A c w1 (ha.over hb))
  have hlx := ha.1
  have HA := Lib.hid ha.2.2
  clear ha
  unfold hasV
  obtain ⟨V, hV⟩ : ∃ V, vd 0 d = V := ⟨_, rfl⟩
  rw [hV] at C ⊢
  clear hV
  obtain ⟨R, hR⟩ : ∃ R, (V && d.any (inP v)) = R := ⟨_, rfl⟩
  rw [hR]
  have HR := Lib.hid hR
  clear hR
  go_enter Tryd.func22, Tryd.ntmps22
  go_wp2_with fail
  go_loopw [5] (fun i wr => ∃ k : Nat, k ≤ d.length ∧ i = .int .i64 k ∧ (∀ j (hj : j < k) (hl : j < d.length), inP v d[j] = false) ∧ Below w.heap.size w wr) (fun i _ => d.length - (intOf i).toNat)
  case atStart => exact ⟨0, Nat.zero_le _, rfl, fun j hj => absurd hj (Nat.not_lt_zero _), Below.refl _ _⟩
  case round =>
    obtain ⟨k, hk, rfl, hall, hbw⟩ := hrel
    have HL := Lib.hid hall
    have HBW := Lib.hid hbw
    clear hall hbw
    by_cases hlt : k < d.length
    · obtain ⟨b1, o1, rfl, hb1', g1⟩ := HA.out (by omega)
      have x1 := fun w1 (hb : Below w.heap.size w w1) => (hb.cell (p := ⟨b1, o1 + k * 2, none⟩) hb1').trans (g1 k hlt).1
      have x2 := fun w1 (hb : Below w.heap.size w w1) => (hb.cell (p := ⟨b1, o1 + k * 2 + 1, none⟩) hb1').trans (g1 k hlt).2
      have C2 := Lib.hid (C.out wr HBW.out)
      have z1 : (k : Int) < (d.length : Int) := by omega
      have z2 : (0 : Int) ≤ (k : Int) := by omega
      generalize hx : d[k] = x at *
      have HX := Lib.hid hx
      obtain ⟨a, b⟩ := x
      have X1 := Lib.hid x1
      have X2 := Lib.hid x2
      clear g1 HA C hx x1 x2
      simp only at X1 X2
      cases V with
      | false =>
        obtain rfl : R = false := by rw [← HR.out]; rfl
        go_wp2_with (go_at_call 17; refine C2.out.mono ?_; rintro e w1 ⟨rfl, hb⟩; have HB := Lib.hid (HBW.out.trans (hb.mono HBW.out.size)); clear hb)
        go_ret
        exact ⟨rfl, HB.out⟩
      | true =>
        go_wp2_with (go_at_call 17; refine C2.out.mono ?_; rintro e w1 ⟨rfl, hb⟩; have HB := Lib.hid (HBW.out.trans (hb.mono HBW.out.size)); clear hb; have y1 := X1.out _ HB.out; have y2 := X2.out _ HB.out)
        case roundEnd | roundEnd =>
          refine ⟨⟨k + 1, by omega, by go_num, fun j hj hl => ?_, HB.out⟩, by simp [intOf]; omega⟩
          rcases Nat.lt_or_ge j k with h | h
          · exact HL.out j h hl
          · obtain rfl : j = k := by omega
            rw [HX.out]; simp only [inP, decide_eq_false_iff_not]; omega
        obtain rfl : R = true := by
          rw [← HR.out, Bool.true_and, List.any_eq_true]
          exact ⟨(a, b), by rw [← HX.out]; exact List.getElem_mem _, by simp only [inP, decide_eq_true_eq]; omega⟩
        go_ret
        exact ⟨rfl, HB.out⟩
    · obtain rfl : k = d.length := by omega
      clear HA C
      obtain rfl : R = false := by
        rw [← HR.out]
        have : d.any (inP v) = false := by
          rw [List.any_eq_false]
          intro x hx
          obtain ⟨j, hj, rfl⟩ := List.getElem_of_mem hx
          rw [HL.out j hj hj]; simp
        rw [this, Bool.and_false]
      go_wp2_with fail
      go_ret
      exact ⟨rfl, HBW.out⟩

set_option maxHeartbeats 4000000 in
theorem ints_any (xs ys : List Int) (A B : Option Addr) (c1 c2 : Nat) (w : World) (ha : Ints w A xs) (hb : Ints w B ys) :
    Calls Tryd.prog 18 #[.slice A xs.length c1, .slice B ys.length c2] w fun e w' => e = .returned (.bool (decide (xs = ys))) ∧ Below w.heap.size w w' := by
  have hlx := ha.1
  have hly := hb.1
  have HA := Lib.hid ha.2.2
  have HB := Lib.hid hb.2.2
  clear ha hb
  obtain ⟨R, hR⟩ : ∃ R, decide (xs = ys) = R := ⟨_, rfl⟩
  rw [hR]
  have HR := Lib.hid hR
  clear hR
  by_cases hl : xs.length = ys.length
  · go_enter Tryd.func18, Tryd.ntmps18
    rw [← hl]
    have HLL := Lib.hid hl
    clear hl
    go_wp2_with fail
    go_loopw [5, 13] (fun _ i wr => ∃ k : Nat, k ≤ xs.length ∧ i = .int .i64 k ∧ (∀ j (hj : j < k) (h1 : j < xs.length) (h2 : j < ys.length), xs[j] = ys[j]) ∧ Below w.heap.size w wr) (fun _ i _ => xs.length - (intOf i).toNat)
    case atStart => exact ⟨0, Nat.zero_le _, rfl, fun j hj => absurd hj (Nat.not_lt_zero _), Below.refl _ _⟩
    case round =>
      obtain ⟨k, hk, rfl, hall, hbw⟩ := hrel
      have HL := Lib.hid hall
      have HBW := Lib.hid hbw
      clear hall hbw
      by_cases hlt : k < xs.length
      · have hlt2 : k < ys.length := by rw [← HLL.out]; exact hlt
        obtain ⟨b1, o1, rfl, hb1', g1⟩ := HA.out (by omega)
        obtain ⟨b2, o2, rfl, hb2', g2⟩ := HB.out (by omega)
        have x1 := (HBW.out.cell (p := ⟨b1, o1 + k, none⟩) hb1').trans (g1 k hlt)
        have x2 := (HBW.out.cell (p := ⟨b2, o2 + k, none⟩) hb2').trans (g2 k hlt2)
        have z1 : (k : Int) < (xs.length : Int) := by omega
        have z2 : (0 : Int) ≤ (k : Int) := by omega
        generalize hx : xs[k] = x at *
        generalize hy : ys[k] = y at *
        have HX := Lib.hid hx
        have HY := Lib.hid hy
        clear g1 g2 HA HB hx hy
        by_cases hxy : x = y
        · subst hxy
          go_wp2_with fail
          go_quiet (fail)
          go_wp2_with fail
          go_roundw
          case rel =>
            refine ⟨k + 1, by omega, by go_num, fun j hj h1 h2 => ?_, below_drewN HBW.out _⟩
            rcases Nat.lt_or_ge j k with h | h
            · exact HL.out j h h1 h2
            · obtain rfl : j = k := by omega
              rw [HX.out, HY.out]
          case measure => simp [intOf]; omega
        · have q1 : (x != y) = true := by simp [hxy]
          go_wp2_with fail
          go_quiet (fail)
          go_wp2_with fail
          go_ret
          obtain rfl : R = false := by
            rw [← HR.out, decide_eq_false_iff_not]
            rintro rfl
            exact hxy (HX.out.symm.trans HY.out)
          exact ⟨rfl, below_drewN HBW.out _⟩
      · obtain rfl : k = xs.length := by omega
        clear HA HB
        go_wp2_with fail
        go_ret
        obtain rfl : R = true := by
          rw [← HR.out, decide_eq_true_eq]
          exact List.ext_getElem HLL.out fun j h1 h2 => HL.out j h1 h1 h2
        exact ⟨rfl, HBW.out⟩
  · have z1 : ¬ (xs.length : Int) = (ys.length : Int) := by omega
    obtain rfl : R = false := by
      rw [← HR.out, decide_eq_false_iff_not]
      rintro rfl
      exact hl rfl
    clear hl
    go_enter Tryd.func18, Tryd.ntmps18
    go_wp2_with fail
    go_ret
    exact ⟨rfl, Below.refl _ _⟩
end Go.Proofs.YtlhfbhkfmkcnjaaDoor
