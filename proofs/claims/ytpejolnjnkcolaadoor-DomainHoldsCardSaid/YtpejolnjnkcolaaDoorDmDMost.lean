/-
  Which propagators are valid: the document's own answer.
-/
import Derived.Test.YtpejolnjnkcolaaDoorDmD
namespace Go.Proofs.YtpejolnjnkcolaaDoor
open Go.RowKit

set_option maxRecDepth 100000 in
set_option maxHeartbeats 4000000 in
theorem vp_most (x : ByteArray) (vs cs : List Int) (n N : Int) (A B : Option Addr) (c1 c2 : Nat) (w : World) (hx : x.toList = [109, 111, 115, 116]) (ha : Ints w A vs) (hb : Ints w B cs) (hN : -9223372036854775808 ≤ N ∧ N ≤ 9223372036854775807) :
    Calls Tryd.prog 43 #[.agg #[.string x, .slice A vs.length c1, .slice B cs.length c2, .int .i64 n], .int .i64 N] w fun e w' => e = .returned (.bool (vpCore vs.length vs.length vs.length true false true vs cs n N)) ∧ Below w.heap.size w w' := by
  obtain ⟨ha1, ha2, ha3⟩ := ha
  obtain ⟨hb1, hb2, hb3⟩ := hb
  have k_sum : (x.toList == [115, 117, 109]) = false := by rw [hx]; rfl
  have k_most : (x.toList == [109, 111, 115, 116]) = true := by rw [hx]; rfl
  have k_distinct : (x.toList == [100, 105, 115, 116, 105, 110, 99, 116]) = false := by rw [hx]; rfl
  have k_unlike : (x.toList == [117, 110, 108, 105, 107, 101]) = false := by rw [hx]; rfl
  have k_product : (x.toList == [112, 114, 111, 100, 117, 99, 116]) = false := by rw [hx]; rfl
  have k_max : (x.toList == [109, 97, 120]) = false := by rw [hx]; rfl
  have k_reify : (x.toList == [114, 101, 105, 102, 121]) = false := by rw [hx]; rfl
  have k_element : (x.toList == [101, 108, 101, 109, 101, 110, 116]) = false := by rw [hx]; rfl
  have k_apart : (x.toList == [97, 112, 97, 114, 116]) = false := by rw [hx]; rfl
  clear hx
  generalize hV : vpCore vs.length vs.length vs.length true false true vs cs n N = V
  have HV := Lib.hid hV
  have HA := Lib.hid ha3
  have HB := Lib.hid hb3
  clear hV ha2 hb2 ha3 hb3
  have B0 := Lib.hid (show ∀ o, Below w.heap.size w (w.alloc o) from fun o => (Below.refl _ _).alloc (Nat.le_refl _) _)
  by_cases hC : N ≤ 40 ∧ (1 : Int) ≤ (vs.length : Int) ∧ (vs.length : Int) ≤ 40 ∧ (vs.length : Int) = (vs.length : Int) ∧ (vs.length : Int) ≤ (cs.length : Int) ∧ (cs.length : Int) ≤ (vs.length : Int)
  · obtain ⟨t1, t2, t3, t4, t5, t6⟩ := hC
    have t4' : ((vs.length : Int) != (vs.length : Int)) = false := by simp; try omega
    have T4 := Lib.hid t4
    clear t4
    go_enter Tryd.func43, Tryd.ntmps43
    go_wp2_with fail
    try go_quiet (fail)
    try go_wp2_with fail
    obtain ⟨W, hW⟩ : ∃ W : World, W = (w.alloc (.cells #[.string x, .slice A vs.length c1, .slice B cs.length c2, .int .i64 n] 37)).drewN nq := ⟨_, rfl⟩
    rw [← hW]
    have g0 : W.cell? ⟨w.heap.size, 0, none⟩ = some (.string x) := by rw [hW]; simp [go_sem]
    have g1 : W.cell? ⟨w.heap.size, 1, none⟩ = some (.slice A vs.length c1) := by rw [hW]; simp [go_sem]
    have g2 : W.cell? ⟨w.heap.size, 2, none⟩ = some (.slice B cs.length c2) := by rw [hW]; simp [go_sem]
    have g3 : W.cell? ⟨w.heap.size, 3, none⟩ = some (.int .i64 n) := by rw [hW]; simp [go_sem]
    have hbW : Below w.heap.size w W := by rw [hW]; exact below_drewN (B0.out _) _
    have HBW := Lib.hid hbW
    clear hW hbW B0
    have hvp : V = (vs.all (fun v => decide (0 ≤ v ∧ v < N)) && cs.all (fun c => decide (-1000000 ≤ c ∧ c ≤ 1000000) && !(true && c == 0) && !(false && decide (c < 0))) && (!true || decide (-1000000 ≤ n ∧ n ≤ 1000000))) := by
      rw [← HV.out]; unfold vpCore; rw [decide_eq_true (by have := T4.out; omega)]; rfl
    have HP := Lib.hid hvp
    clear hvp HV
    go_loop [8] (fun i => ∃ k : Nat, k ≤ vs.length ∧ i = .int .i64 k ∧ ∀ j (hj : j < k) (hl : j < vs.length), 0 ≤ vs[j] ∧ vs[j] < N) (fun i => vs.length - (intOf i).toNat)
    case atStart => exact ⟨0, Nat.zero_le _, rfl, fun j hj => absurd hj (Nat.not_lt_zero _)⟩
    case round =>
      obtain ⟨k, hk, rfl, hall⟩ := hrel
      have HALL := Lib.hid hall
      clear hall
      by_cases hlt : k < vs.length
      · obtain ⟨b1, o1, rfl, hb1', f1⟩ := HA.out (by omega)
        have x1 := (HBW.out.cell (p := ⟨b1, o1 + k, none⟩) hb1').trans (f1 k hlt)
        have EV := Lib.hid (show vs[k] = vs[k] from rfl)
        generalize hv : vs[k] = v at x1 EV
        have HV := Lib.hid hv
        clear hv f1 HA HB EV
        have z3 : (k : Int) < (vs.length : Int) := by omega
        have z4 : (0 : Int) ≤ (k : Int) := by omega
        by_cases hr : 0 ≤ v ∧ v < N
        · obtain ⟨r1, r2⟩ := hr
          go_wp2_with fail
          go_round
          case rel =>
            refine ⟨k + 1, by omega, by go_num, fun j hj hl => ?_⟩
            rcases Nat.lt_or_ge j k with h | h
            · exact HALL.out j h hl
            · obtain rfl : j = k := by omega
              rw [HV.out]; exact ⟨r1, r2⟩
          case measure => simp [intOf]; omega
        · have E : V = false := by
            rw [HP.out, Bool.and_eq_false_iff, Bool.and_eq_false_iff]
            left; left
            rw [List.all_eq_false]
            exact ⟨v, by rw [← HV.out]; exact List.getElem_mem _, by simp; omega⟩
          subst E
          have hr2 : v < 0 ∨ N ≤ v := by omega
          clear hr
          have HR := Lib.hid hr2
          clear hr2
          go_wp2_with fail
          all_goals first | (go_ret; exact ⟨rfl, HBW.out⟩) | (exfalso; have := HR.out; omega)
      · obtain rfl : k = vs.length := by omega
        have a1 : vs.all (fun v => decide (0 ≤ v ∧ v < N)) = true := by
          rw [List.all_eq_true]
          intro v hv
          obtain ⟨j, hj, rfl⟩ := List.getElem_of_mem hv
          exact decide_eq_true (HALL.out j hj hj)
        have hvp2 := HP.out
        rw [a1, Bool.true_and] at hvp2
        have HQ := Lib.hid hvp2
        clear hvp2 HP a1 HALL HA
        go_wp2_with fail
        go_loop [9, 10] (fun i _ => ∃ k : Nat, k ≤ cs.length ∧ i = .int .i64 k ∧ ∀ j (hj : j < k) (hl : j < cs.length), (-1000000 ≤ cs[j] ∧ cs[j] ≤ 1000000) ∧ (true = true → cs[j] ≠ 0) ∧ (false = true → 0 ≤ cs[j])) (fun i _ => cs.length - (intOf i).toNat)
        case atStart => exact ⟨0, Nat.zero_le _, rfl, fun j hj => absurd hj (Nat.not_lt_zero _)⟩
        case round =>
          obtain ⟨q, hq, rfl, hall⟩ := hrel
          have HALL := Lib.hid hall
          clear hall
          by_cases hlt2 : q < cs.length
          · obtain ⟨b1, o1, rfl, hb1', f1⟩ := HB.out (by omega)
            have x1 := (HBW.out.cell (p := ⟨b1, o1 + q, none⟩) hb1').trans (f1 q hlt2)
            generalize hv : cs[q] = v at x1
            have HV := Lib.hid hv
            clear hv f1 HB
            have z3 : (q : Int) < (cs.length : Int) := by omega
            have z4 : (0 : Int) ≤ (q : Int) := by omega
            by_cases hr : (-1000000 ≤ v ∧ v ≤ 1000000) ∧ (true = true → v ≠ 0) ∧ (false = true → 0 ≤ v)
            · have GOOD := Lib.hid hr
              obtain ⟨⟨r1, r2⟩, r3, r4⟩ := hr
              try simp at r3
              try simp at r4
              have r3b : (v == 0) = false := by simpa using r3
              go_wp2_with fail
              all_goals first
                | (exfalso; have := GOOD.out; simp at this; omega)
                | (go_round
                   case rel =>
                     refine ⟨q + 1, by omega, by go_num, fun j hj hl => ?_⟩
                     rcases Nat.lt_or_ge j q with h | h
                     · simpa using HALL.out j h hl
                     · obtain rfl : j = q := by omega
                       rw [HV.out]; simpa using GOOD.out
                   case measure => simp [intOf]; omega)
            · have E : V = false := by
                rw [HQ.out, Bool.and_eq_false_iff]
                left
                rw [List.all_eq_false]
                refine ⟨v, by rw [← HV.out]; exact List.getElem_mem _, ?_⟩
                simp
                simp at hr
                omega
              subst E
              have HR := Lib.hid hr
              clear hr
              go_wp2_with fail
              all_goals first | (go_ret; exact ⟨rfl, HBW.out⟩) | (exfalso; have := HR.out; simp at this; omega)
          · obtain rfl : q = cs.length := by omega
            have a2 : cs.all (fun c => decide (-1000000 ≤ c ∧ c ≤ 1000000) && !(true && c == 0) && !(false && decide (c < 0))) = true := by
              rw [List.all_eq_true]
              intro v hv
              obtain ⟨j, hj, rfl⟩ := List.getElem_of_mem hv
              obtain ⟨r1, r2, r3⟩ := HALL.out j hj hj
              simp at r2 r3 ⊢
              omega
            have hvp3 := HQ.out
            rw [a2, Bool.true_and] at hvp3
            have HL := Lib.hid hvp3
            clear hvp3 HQ a2 HALL HB
            by_cases hn : -1000000 ≤ n ∧ n ≤ 1000000
            · obtain ⟨n1, n2⟩ := hn
              have E : V = true := by rw [HL.out]; simp [n1, n2]
              subst E
              go_wp2_with fail
              all_goals (go_ret; exact ⟨rfl, HBW.out⟩)
            · have E : V = !true := by rw [HL.out, decide_eq_false hn]; rfl
              subst E
              have hn2 : n < -1000000 ∨ 1000000 < n := by omega
              clear hn
              rcases hn2 with hn2 | hn2
              all_goals go_wp2_with fail
              all_goals (go_ret; exact ⟨by first | rfl | (rw [show decide (n ≤ 1000000) = false from decide_eq_false (by omega)]; rfl), HBW.out⟩)
  · have E : V = false := by rw [← HV.out]; unfold vpCore; rw [decide_eq_false hC]; rfl
    subst E
    clear HV HA HB
    have hC2 : 40 < N ∨ (vs.length : Int) < 1 ∨ 40 < (vs.length : Int) ∨ (vs.length : Int) ≠ (vs.length : Int) ∨ (cs.length : Int) < (vs.length : Int) ∨ (vs.length : Int) < (cs.length : Int) := by omega
    clear hC
    have HC := Lib.hid hC2
    clear hC2
    go_enter Tryd.func43, Tryd.ntmps43
    go_wp2_with fail
    try go_quiet (fail)
    try go_wp2_with fail
    all_goals first
      | (go_ret; exact ⟨rfl, by first | exact B0.out _ | exact below_drewN (B0.out _) _⟩)
      | (exfalso; have := HC.out; omega)
end Go.Proofs.YtpejolnjnkcolaaDoor
