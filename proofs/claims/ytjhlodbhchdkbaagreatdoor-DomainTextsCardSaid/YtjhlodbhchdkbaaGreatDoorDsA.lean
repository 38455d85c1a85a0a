/-
  Lists of ranges as they lie; which are domains: the program's word and the document's.
-/
import Derived.Test.YtjhlodbhchdkbaaGreatDoorDsZ
import Derived.IntWalk
import Derived.Deep.QuietTactic
import Derived.BigQuiet
import Derived.WalkSmall
import Derived.OneCell
namespace Go.Proofs.YtjhlodbhchdkbaaGreatDoor
open Go.RowKit

/-- a slice of pairs of integers that lies in a world -/
def Pairs (w : World) (A : Option Addr) (d : List (Int × Int)) : Prop := d.length ≤ 1000000 ∧ (∀ x ∈ d, (-9223372036854775808 ≤ x.1 ∧ x.1 ≤ 9223372036854775807) ∧ -9223372036854775808 ≤ x.2 ∧ x.2 ≤ 9223372036854775807) ∧
  (0 < d.length → ∃ b off, A = some ⟨b, off, none⟩ ∧ b < w.heap.size ∧ ∀ i (h : i < d.length), w.cell? ⟨b, off + i * 2, none⟩ = some (.int .i64 d[i].1) ∧ w.cell? ⟨b, off + i * 2 + 1, none⟩ = some (.int .i64 d[i].2))
theorem Pairs.over {w w' : World} {A : Option Addr} {d : List (Int × Int)} (h : Pairs w A d) (k : Below w.heap.size w w') : Pairs w' A d :=
  ⟨h.1, h.2.1, fun hp => by
    obtain ⟨b, off, e, hb, hc⟩ := h.2.2 hp
    exact ⟨b, off, e, Nat.lt_of_lt_of_le hb k.size, fun i hi => ⟨(k.cell (p := ⟨b, off + i * 2, none⟩) hb).trans (hc i hi).1, (k.cell (p := ⟨b, off + i * 2 + 1, none⟩) hb).trans (hc i hi).2⟩⟩⟩
/-- ascending, from a number on, within what may be, with gaps between -/
def vd : Int → List (Int × Int) → Bool
  | _, [] => true
  | n, (a, b) :: r => decide (n ≤ a) && decide (a ≤ b) && decide (b ≤ 1000) && vd (b + 2) r
def nx (d : List (Int × Int)) (k : Nat) : Int := if k = 0 then 0 else (d.getD (k - 1) (0, 0)).2 + 2
theorem vd_drop {n : Int} {d : List (Int × Int)} {k : Nat} (h : k < d.length) : vd n (d.drop k) = (decide (n ≤ d[k].1) && decide (d[k].1 ≤ d[k].2) && decide (d[k].2 ≤ 1000) && vd (d[k].2 + 2) (d.drop (k + 1))) := by
  rw [List.drop_eq_getElem_cons h]; rfl

set_option maxHeartbeats 2000000 in
theorem Valid_p_any (d : List (Int × Int)) (A : Option Addr) (c : Nat) (w : World) (ha : Pairs w A d) :
    Calls Tryz.prog 11 #[.slice A d.length c] w fun e w' => e = .returned (.bool (vd 0 d)) ∧ Below w.heap.size w w' := by
  obtain ⟨ha1, ha2, ha3⟩ := ha
  have HA := Lib.hid ha3
  have HV := Lib.hid ha2
  obtain ⟨R, hR⟩ : ∃ R, vd 0 d = R := ⟨_, rfl⟩
  rw [hR]
  clear ha2 ha3
  have HR := Lib.hid hR
  clear hR
  go_enter Tryz.func11, Tryz.ntmps11
  go_wp2_with fail
  go_loopw [3, 8] (fun n i wr => ∃ (k : Nat) (m : Int), k ≤ d.length ∧ i = .int .i64 k ∧ n = .int .i64 m ∧ 0 ≤ m ∧ m ≤ 1002 ∧ vd m (d.drop k) = R ∧ Below w.heap.size w wr) (fun _ i _ => d.length - (intOf i).toNat)
  case atStart => exact ⟨0, 0, Nat.zero_le _, rfl, rfl, by omega, by omega, HR.out, Below.refl _ _⟩
  case round =>
    obtain ⟨k, m, hk, rfl, rfl, hm0, hm1, hvd, hbw⟩ := hrel
    have HBW := Lib.hid hbw
    clear hbw
    by_cases hlt : k < d.length
    · obtain ⟨b1, o1, rfl, hb1', g1⟩ := HA.out (by omega)
      have x1 := (HBW.out.cell (p := ⟨b1, o1 + k * 2, none⟩) hb1').trans (g1 k hlt).1
      have x2 := (HBW.out.cell (p := ⟨b1, o1 + k * 2 + 1, none⟩) hb1').trans (g1 k hlt).2
      have hv := HV.out _ (List.getElem_mem hlt)
      rw [vd_drop hlt] at hvd
      clear g1
      generalize d[k] = p at *
      obtain ⟨a, b⟩ := p
      simp only at x1 x2 hv hvd
      have HVD := Lib.hid hvd
      have HX := Lib.hid hv
      clear hvd hv HA HV
      have z3 : (k : Int) < (d.length : Int) := by omega
      have z4 : (0 : Int) ≤ (k : Int) := by omega
      go_wp2_with fail
      case roundEnd =>
        rename_i h1 h2 h3
        have hv := HVD.out
        simp only [h1, h2, h3.2, decide_true, Bool.true_and] at hv
        exact ⟨⟨k + 1, b + 2, by omega, by go_num, rfl, by omega, by omega, hv, HBW.out.alloc HBW.out.size _⟩, by simp [intOf]; omega⟩
      all_goals go_ret
      all_goals refine ⟨?_, HBW.out.alloc HBW.out.size _⟩
      all_goals
        obtain rfl : R = false := by rw [← HVD.out]; simp; omega
        rfl
    · obtain rfl : k = d.length := by omega
      rw [List.drop_length] at hvd
      have HVD := Lib.hid hvd
      clear hvd HA HV
      go_wp2_with fail
      go_ret
      exact ⟨by rw [← HVD.out]; rfl, HBW.out⟩

theorem vd_all {n : Int} {d : List (Int × Int)} (h0 : 0 ≤ n) (h : vd n d = true) : ∀ x ∈ d, n ≤ x.1 ∧ x.1 ≤ x.2 ∧ x.2 ≤ 1000 := by
  induction d generalizing n with
  | nil => simp
  | cons y r ih =>
    obtain ⟨a, b⟩ := y
    simp only [vd, Bool.and_eq_true, decide_eq_true_eq] at h
    intro x hx
    rcases List.mem_cons.1 hx with rfl | hx
    · exact ⟨h.1.1.1, h.1.1.2, h.1.2⟩
    · have := ih (by omega) h.2 x hx
      omega

set_option maxHeartbeats 4000000 in
theorem Valid_r_any (d : List (Int × Int)) (A : Option Addr) (c : Nat) (w : World) (ha : Pairs w A d) :
    Calls Tryz.prog 16 #[.slice A d.length c] w fun e w' => e = .returned (.bool (vd 0 d)) ∧ Below w.heap.size w w' := by
  obtain ⟨ha1, ha2, ha3⟩ := ha
  have HA := Lib.hid ha3
  have HV := Lib.hid ha2
  obtain ⟨R, hR⟩ : ∃ R, vd 0 d = R := ⟨_, rfl⟩
  rw [hR]
  clear ha2 ha3
  have HR := Lib.hid hR
  clear hR
  go_enter Tryz.func16, Tryz.ntmps16
  go_wp2_with fail
  go_loopw [3] (fun i wr => ∃ (k : Nat), k ≤ d.length ∧ i = .int .i64 k ∧ 0 ≤ nx d k ∧ nx d k ≤ 1002 ∧ vd (nx d k) (d.drop k) = R ∧ Below w.heap.size w wr) (fun i _ => d.length - (intOf i).toNat)
  case atStart => exact ⟨0, Nat.zero_le _, rfl, by simp [nx], by simp [nx], HR.out, Below.refl _ _⟩
  case round =>
    obtain ⟨k, hk, rfl, hm0, hm1, hvd, hbw⟩ := hrel
    have HBW := Lib.hid hbw
    clear hbw
    by_cases hlt : k < d.length
    · obtain ⟨b1, o1, rfl, hb1', g1⟩ := HA.out (by omega)
      have x1 := (HBW.out.cell (p := ⟨b1, o1 + k * 2, none⟩) hb1').trans (g1 k hlt).1
      have x2 := (HBW.out.cell (p := ⟨b1, o1 + k * 2 + 1, none⟩) hb1').trans (g1 k hlt).2
      have hv := HV.out _ (List.getElem_mem hlt)
      have NX := Lib.hid (show nx d (k + 1) = d[k].2 + 2 by simp [nx, List.getD_eq_getElem?_getD, List.getElem?_eq_getElem hlt])
      rw [vd_drop hlt] at hvd
      obtain ⟨m, hm⟩ : ∃ m, nx d k = m := ⟨_, rfl⟩
      have HM := Lib.hid hm
      rw [hm] at hm0 hm1 hvd
      clear hm
      have z3 : (k : Int) < (d.length : Int) := by omega
      have z4 : (0 : Int) ≤ (k : Int) := by omega
      have pos : 0 < k → (0 : Int) ≤ (k : Int) - 1 ∧ (k : Int) - 1 < (d.length : Int) ∧ ((k : Int) - 1).toNat = k - 1 ∧ wr.cell? ⟨b1, o1 + (k - 1) * 2 + 1, none⟩ = some (.int .i64 (m - 2)) := fun h => by
        refine ⟨by omega, by omega, by omega, ?_⟩
        rw [(HBW.out.cell (p := ⟨b1, o1 + (k - 1) * 2 + 1, none⟩) hb1').trans (g1 (k - 1) (by omega)).2, ← HM.out]
        have : ¬ k = 0 := by omega
        simp [nx, this, List.getD_eq_getElem?_getD, List.getElem?_eq_getElem (show k - 1 < d.length by omega)]
      clear g1
      generalize d[k] = p at *
      obtain ⟨a, b⟩ := p
      simp only at x1 x2 hv hvd
      have HVD := Lib.hid hvd
      have HX := Lib.hid hv
      have POS := Lib.hid pos
      clear hvd hv pos HA HV
      by_cases q1 : a < 0
      · have q1' : decide (a < 0) = true := by simp [q1]
        go_wp2_with fail
        go_quiet (fail)
        go_wp2_with fail
        go_ret
        obtain rfl : R = false := by rw [← HVD.out]; simp; omega
        exact ⟨rfl, below_drewN HBW.out _⟩
      · have q1' : decide (a < 0) = false := by simp; omega
        by_cases q2 : b < a
        · have q2' : decide (b < a) = true := by simp [q2]
          go_wp2_with fail
          go_quiet (fail)
          go_wp2_with fail
          go_ret
          obtain rfl : R = false := by rw [← HVD.out]; simp; omega
          exact ⟨rfl, below_drewN HBW.out _⟩
        · have q2' : decide (b < a) = false := by simp; omega
          by_cases q3 : 1000 < b
          · have q3' : decide (1000 < b) = true := by simp [q3]
            go_wp2_with fail
            go_quiet (fail)
            go_wp2_with fail
            go_ret
            obtain rfl : R = false := by rw [← HVD.out]; simp; omega
            exact ⟨rfl, below_drewN HBW.out _⟩
          · have q3' : decide (1000 < b) = false := by simp; omega
            by_cases q4 : 0 < k
            · have q4' : decide ((0 : Int) < (k : Int)) = true := by simp; omega
              obtain ⟨y1, y2, y3, y4⟩ := POS.out q4
              have y5 : IntKind.i64.wrap (m - 2 + 2) = m := by rw [IntWalk.i64_in _ (by omega)]; omega
              by_cases q5 : a < m
              · have q5' : decide (a < m) = true := by simp [q5]
                go_wp2_with fail
                go_quiet (fail)
                go_wp2_with fail
                go_ret
                obtain rfl : R = false := by rw [← HVD.out]; simp; omega
                exact ⟨rfl, below_drewN HBW.out _⟩
              · have q5' : decide (a < m) = false := by simp; omega
                go_wp2_with fail
                go_quiet (fail)
                go_wp2_with fail
                go_roundw
                case rel =>
                  refine ⟨k + 1, by omega, by go_num, by rw [NX.out]; omega, by rw [NX.out]; omega, ?_, below_drewN HBW.out _⟩
                  rw [NX.out, ← HVD.out]
                  have e1 : m ≤ a := by omega
                  have e2 : a ≤ b := by omega
                  have e3 : b ≤ 1000 := by omega
                  simp [e1, e2, e3]
                case measure => simp [intOf]; omega
            · have q4' : decide ((0 : Int) < (k : Int)) = false := by simp; omega
              have hm2 : m = 0 := by rw [← HM.out]; have : k = 0 := by omega
                                     simp [nx, this]
              go_wp2_with fail
              go_quiet (fail)
              go_wp2_with fail
              go_roundw
              case rel =>
                refine ⟨k + 1, by omega, by go_num, by rw [NX.out]; omega, by rw [NX.out]; omega, ?_, below_drewN HBW.out _⟩
                rw [NX.out, ← HVD.out]
                have e1 : m ≤ a := by omega
                have e2 : a ≤ b := by omega
                have e3 : b ≤ 1000 := by omega
                simp [e1, e2, e3]
              case measure => simp [intOf]; omega
    · obtain rfl : k = d.length := by omega
      rw [List.drop_length] at hvd
      have HVD := Lib.hid hvd
      clear hvd HA HV
      go_wp2_with fail
      go_ret
      exact ⟨by rw [← HVD.out]; rfl, HBW.out⟩
end Go.Proofs.YtjhlodbhchdkbaaGreatDoor
