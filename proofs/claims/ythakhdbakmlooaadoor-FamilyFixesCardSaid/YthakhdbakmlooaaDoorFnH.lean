/-
  What the document keeps of a relation, once: apart.
-/
import Derived.StillTailTactics
import Derived.Test.YthakhdbakmlooaaDoorKbM
import Derived.Test.YthakhdbakmlooaaDoorKbJ
import Derived.Test.YthakhdbakmlooaaDoorFnC
namespace Go.Proofs.YthakhdbakmlooaaDoor
set_option linter.unusedSimpArgs false
set_option linter.unusedVariables false
open Go Go.RowKit Go.Shelf Go.Ev

set_option maxRecDepth 100000 in
set_option maxHeartbeats 16000000 in
theorem keep_apart (k : ByteArray) (h : KF k.toList .apart) (vs : List Int) (N : Int) (A : Option Addr) (c1 cap g n : Nat) (F : Nat → BdV) (G : Nat → Bool) (w : World) (ha : Ints w A vs) (hrel : relB .apart vs n = true) (hr : DRow w g n F G) (hB : Bits F) (hAg : ∀ b o, A = some ⟨b, o, none⟩ → b ≠ g) :
    Calls Tryd.prog 64 #[.agg #[.string k, .slice A vs.length c1, .int .i64 N], .slice (some ⟨g, 0, none⟩) n cap] w fun e w' => e = .returned (.tuple #[]) ∧ DRow w' g n (kF .apart vs N F) (kG .apart vs N G) ∧ KeptBut g w w' := by
  obtain ⟨m, hm1, hm2, hin, hn40⟩ := relV_parts hrel
  obtain rfl : m = 2 := by simp [varsN] at hm1; omega
  have hg : g < w.heap.size := hr.lt
  obtain ⟨b1, o1, eA, hb1, g1⟩ := ha.2.2 (by omega)
  have EA := Lib.hid eA
  have q0 := hin _ (List.getElem_mem (show 0 < vs.length by omega))
  have v0 := g1 0 (by omega)
  have e0 : vs.getD 0 0 = vs[0] := by simp [List.getD_eq_getElem?_getD, List.getElem?_eq_getElem (show 0 < vs.length by omega)]
  generalize vs[0] = i0 at *
  obtain ⟨x, rfl⟩ : ∃ t : Nat, i0 = t := ⟨i0.toNat, by omega⟩
  have hx : x < n := by omega
  have q1 := hin _ (List.getElem_mem (show 1 < vs.length by omega))
  have v1 := g1 1 (by omega)
  have e1 : vs.getD 1 0 = vs[1] := by simp [List.getD_eq_getElem?_getD, List.getElem?_eq_getElem (show 1 < vs.length by omega)]
  generalize vs[1] = i1 at *
  obtain ⟨y, rfl⟩ : ∃ t : Nat, i1 = t := ⟨i1.toNat, by omega⟩
  have hy : y < n := by omega
  have HM := Lib.hid hm2
  have HAG := Lib.hid (hAg b1 o1 eA)
  have HKF := Lib.hid (show kF .apart vs N F = dapartF F x y from by unfold kF; simp only [e0, e1, Int.toNat_natCast])
  have HKG := Lib.hid (show kG .apart vs N G = G from by unfold kG; simp only [e0, Int.toNat_natCast])
  rw [HKF.out, HKG.out]
  have HR := Lib.hid hr
  have HB0 := Lib.hid hB
  have HB1' := Lib.hid hb1
  have HV0 := Lib.hid v0
  have HV1 := Lib.hid v1
  have HGZ := Lib.hid hg
  clear v0 v1 hm1 hm2 hin hn40 g1 hr hB hAg ha hrel hb1 hg e0 e1
  have hl : vs.length = 2 := HM.out
  obtain ⟨k0, k1, k2, k3, k4, k5, k6, k7⟩ := h
  simp only [Kd.is] at k0 k1 k2 k3 k4 k5 k6 k7
  rw [hl]
  clear hl
  obtain rfl := EA.out
  go_enter Tryd.func64, Tryd.ntmps64
  go_upto_region 1 with fail
  have KB := Lib.hid (show KeptBut g w (w.alloc (.cells #[.string k, .slice (some ⟨b1, o1, none⟩) 2 c1, .int .i64 N] 38)) from KeptBut.of_below ((Below.refl _ w).alloc (Nat.le_refl _) _) (Nat.le_of_lt HGZ.out))
  replace HR := Lib.hid (show DRow (w.alloc (.cells #[.string k, .slice (some ⟨b1, o1, none⟩) 2 c1, .int .i64 N] 38)) g n F G from HR.out.at (((Below.refl w.heap.size w).alloc (Nat.le_refl _) _).block g HGZ.out))
  have BA := (Below.refl w.heap.size w).alloc (Nat.le_refl _) (.cells #[.string k, .slice (some ⟨b1, o1, none⟩) 2 c1, .int .i64 N] 38)
  have v0 := (BA.cell (p := ⟨b1, o1 + 0, none⟩) HB1'.out).trans HV0.out
  have v1 := (BA.cell (p := ⟨b1, o1 + 1, none⟩) HB1'.out).trans HV1.out
  have hx0 := heap_alloc_new w (.cells #[.string k, .slice (some ⟨b1, o1, none⟩) 2 c1, .int .i64 N] 38)
  generalize (w.alloc (.cells #[.string k, .slice (some ⟨b1, o1, none⟩) 2 c1, .int .i64 N] 38)) = W0 at *
  have x0 : W0.cell? ⟨w.heap.size, 0, none⟩ = some (.string k) := by simp only [World.cell?, hx0]; rfl
  have x1 : W0.cell? ⟨w.heap.size, 1, none⟩ = some (.slice (some ⟨b1, o1, none⟩) 2 c1) := by simp only [World.cell?, hx0]; rfl
  have x2 : W0.cell? ⟨w.heap.size, 2, none⟩ = some (.int .i64 N) := by simp only [World.cell?, hx0]; rfl
  have HX := Lib.hid (show ∀ wx : World, KeptBut g w wx → True from fun _ _ => trivial)
  clear hx0 BA HX
  simp only [Nat.add_zero] at v0
  have zx : (x : Int) < (n : Int) := by omega
  have zx' : (0 : Int) ≤ (x : Int) := by omega
  have zy : (y : Int) < (n : Int) := by omega
  have zy' : (0 : Int) ≤ (y : Int) := by omega
  go_upto_region 7 with fail
  go_cut [7] from 36 to 43 (fun v wx => ∃ b : Bool, v = .bool b ∧ wx = W0)
  case first =>
    by_cases hN : 0 ≤ N
    · go_wp2_with fail
      go_meet
      exact ⟨_, rfl, rfl⟩
    · go_wp2_with fail
      go_meet
      exact ⟨_, rfl, rfl⟩
  case rest =>
    obtain ⟨b, rfl, hwx⟩ := hcut
    have hwx := hwx.symm
    subst hwx
    go_upto_region 15 with fail
    clear x0 x1 x2 v0 v1 k0 k1 k2 k3 k4 k5 k6 k7 zx zx' q0 zy zy' q1
    have r0 : W0.cell? ⟨g, y * 5 + 1, none⟩ = some (.int .u64 ((F y).hi : Nat)) := HR.out.cell hy 1 (by decide)
    have r1 : W0.cell? ⟨g, x * 5, none⟩ = some (.int .u64 ((F x).lo : Nat)) := HR.out.cell hx 0 (by decide)
    have E0 := Lib.hid (have B0 := HB0.out; dNot (F y).hi (F x).lo (B0 y).2 (B0 x).1)
    go_still_tail 11, (by kernel_rfl)
    change wpList _ _ _ _ _ W0.drew
    replace HR := Lib.hid (show DRow W0.drew g n F G from HR.out)
    replace KB := Lib.hid (KB.out.drew')
    generalize W0.drew = W0d at *
    clear r0 r1
    rw [E0.out]
    have rt : W0d.cell? ⟨g, y * 5 + 1, none⟩ = some (.int .u64 ((F y).hi : Nat)) := HR.out.cell hy 1 (by decide)
    have ft : W0d.frozen? ⟨g, y * 5 + 1, none⟩ = false := HR.out.frozen _
    go_upto_region 16 with fail
    clear rt ft
    clear E0
    replace HR := Lib.hid (HR.out.out y ((F x).lo) ((sub64 (F y).hi (F x).lo)) (by have B0 := HB0.out; exact rfl))
    replace KB := Lib.hid (KB.out.trans (Only.set W0d (y * 5 + 1) (.int .u64 (((sub64 (F y).hi (F x).lo) : Nat) : Int))).kept)
    generalize W0d.setCell ⟨g, y * 5 + 1, none⟩ (.int .u64 (((sub64 (F y).hi (F x).lo) : Nat) : Int)) = W1 at *
    have HB1 := Lib.hid (HB0.out.out y ((F x).lo))
    obtain ⟨F1, hF1⟩ : ∃ Q, outF F y ((F x).lo) = Q := ⟨_, rfl⟩
    rw [hF1] at HB1 HR
    have r0 : W1.cell? ⟨g, x * 5 + 1, none⟩ = some (.int .u64 ((F1 x).hi : Nat)) := HR.out.cell hx 1 (by decide)
    have r1 : W1.cell? ⟨g, y * 5, none⟩ = some (.int .u64 ((F1 y).lo : Nat)) := HR.out.cell hy 0 (by decide)
    have E0 := Lib.hid (have B1 := HB1.out; dNot (F1 x).hi (F1 y).lo (B1 x).2 (B1 y).1)
    go_still_tail 11, (by kernel_rfl)
    change wpList _ _ _ _ _ W1.drew
    replace HR := Lib.hid (show DRow W1.drew g n F1 G from HR.out)
    replace KB := Lib.hid (KB.out.drew')
    generalize W1.drew = W1d at *
    clear r0 r1
    rw [E0.out]
    have rt : W1d.cell? ⟨g, x * 5 + 1, none⟩ = some (.int .u64 ((F1 x).hi : Nat)) := HR.out.cell hx 1 (by decide)
    have ft : W1d.frozen? ⟨g, x * 5 + 1, none⟩ = false := HR.out.frozen _
    go_wp2_with fail
    clear rt ft
    clear E0
    replace HR := Lib.hid (HR.out.out x ((F1 y).lo) ((sub64 (F1 x).hi (F1 y).lo)) (by have B1 := HB1.out; exact rfl))
    replace KB := Lib.hid (KB.out.trans (Only.set W1d (x * 5 + 1) (.int .u64 (((sub64 (F1 x).hi (F1 y).lo) : Nat) : Int))).kept)
    generalize W1d.setCell ⟨g, x * 5 + 1, none⟩ (.int .u64 (((sub64 (F1 x).hi (F1 y).lo) : Nat) : Int)) = W2 at *
    have HB2 := Lib.hid (HB1.out.out x ((F1 y).lo))
    obtain ⟨F2, hF2⟩ : ∃ Q, outF F1 x ((F1 y).lo) = Q := ⟨_, rfl⟩
    rw [hF2] at HB2 HR
    exact bodyPost_end (v := .tuple #[]) (by simp [results, Tryd.results64, go_sem]) rfl ⟨rfl, by unfold dapartF; simp only [hF1, hF2]; exact HR.out, KB.out⟩
end Go.Proofs.YthakhdbakmlooaaDoor
