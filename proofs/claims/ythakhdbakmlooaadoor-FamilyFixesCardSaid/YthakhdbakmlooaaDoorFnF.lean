/-
  What the document keeps of a relation, once: minus.
-/
import Derived.StillTailTactics
import Derived.Test.YthakhdbakmlooaaDoorKbM
import Derived.Test.YthakhdbakmlooaaDoorKbJ
import Derived.Test.YthakhdbakmlooaaDoorFnC
namespace Go.Proofs.YthakhdbakmlooaaDoor
set_option linter.unusedSimpArgs false
set_option linter.unusedVariables false
open Go Go.RowKit Go.Shelf Go.Ev

set_option maxRecDepth 100000 in
set_option maxHeartbeats 16000000 in
theorem keep_minus (k : ByteArray) (h : KF k.toList .minus) (vs : List Int) (N : Int) (A : Option Addr) (c1 cap g n : Nat) (F : Nat → BdV) (G : Nat → Bool) (w : World) (ha : Ints w A vs) (hrel : relB .minus vs n = true) (hr : DRow w g n F G) (hB : Bits F) (hAg : ∀ b o, A = some ⟨b, o, none⟩ → b ≠ g) :
    Calls Tryd.prog 64 #[.agg #[.string k, .slice A vs.length c1, .int .i64 N], .slice (some ⟨g, 0, none⟩) n cap] w fun e w' => e = .returned (.tuple #[]) ∧ DRow w' g n (kF .minus vs N F) (kG .minus vs N G) ∧ KeptBut g w w' := by
  obtain ⟨m, hm1, hm2, hin, hn40⟩ := relV_parts hrel
  obtain rfl : m = 3 := by simp [varsN] at hm1; omega
  have hg : g < w.heap.size := hr.lt
  obtain ⟨b1, o1, eA, hb1, g1⟩ := ha.2.2 (by omega)
  have EA := Lib.hid eA
  have q0 := hin _ (List.getElem_mem (show 0 < vs.length by omega))
  have v0 := g1 0 (by omega)
  have e0 : vs.getD 0 0 = vs[0] := by simp [List.getD_eq_getElem?_getD, List.getElem?_eq_getElem (show 0 < vs.length by omega)]
  generalize vs[0] = i0 at *
  obtain ⟨x, rfl⟩ : ∃ t : Nat, i0 = t := ⟨i0.toNat, by omega⟩
  have hx : x < n := by omega
  have q1 := hin _ (List.getElem_mem (show 1 < vs.length by omega))
  have v1 := g1 1 (by omega)
  have e1 : vs.getD 1 0 = vs[1] := by simp [List.getD_eq_getElem?_getD, List.getElem?_eq_getElem (show 1 < vs.length by omega)]
  generalize vs[1] = i1 at *
  obtain ⟨y, rfl⟩ : ∃ t : Nat, i1 = t := ⟨i1.toNat, by omega⟩
  have hy : y < n := by omega
  have q2 := hin _ (List.getElem_mem (show 2 < vs.length by omega))
  have v2 := g1 2 (by omega)
  have e2 : vs.getD 2 0 = vs[2] := by simp [List.getD_eq_getElem?_getD, List.getElem?_eq_getElem (show 2 < vs.length by omega)]
  generalize vs[2] = i2 at *
  obtain ⟨z, rfl⟩ : ∃ t : Nat, i2 = t := ⟨i2.toNat, by omega⟩
  have hz : z < n := by omega
  have HM := Lib.hid hm2
  have HAG := Lib.hid (hAg b1 o1 eA)
  have HKF := Lib.hid (show kF .minus vs N F = minusF F x y z from by unfold kF; simp only [e0, e1, e2, Int.toNat_natCast])
  have HKG := Lib.hid (show kG .minus vs N G = G from by unfold kG; simp only [e0, Int.toNat_natCast])
  rw [HKF.out, HKG.out]
  have HR := Lib.hid hr
  have HB0 := Lib.hid hB
  have HB1' := Lib.hid hb1
  have HV0 := Lib.hid v0
  have HV1 := Lib.hid v1
  have HV2 := Lib.hid v2
  have HGZ := Lib.hid hg
  clear v0 v1 v2 hm1 hm2 hin hn40 g1 hr hB hAg ha hrel hb1 hg e0 e1 e2
  have hl : vs.length = 3 := HM.out
  obtain ⟨k0, k1, k2, k3, k4, k5, k6, k7⟩ := h
  simp only [Kd.is] at k0 k1 k2 k3 k4 k5 k6 k7
  rw [hl]
  clear hl
  obtain rfl := EA.out
  go_enter Tryd.func64, Tryd.ntmps64
  go_upto_region 1 with fail
  have KB := Lib.hid (show KeptBut g w (w.alloc (.cells #[.string k, .slice (some ⟨b1, o1, none⟩) 3 c1, .int .i64 N] 38)) from KeptBut.of_below ((Below.refl _ w).alloc (Nat.le_refl _) _) (Nat.le_of_lt HGZ.out))
  replace HR := Lib.hid (show DRow (w.alloc (.cells #[.string k, .slice (some ⟨b1, o1, none⟩) 3 c1, .int .i64 N] 38)) g n F G from HR.out.at (((Below.refl w.heap.size w).alloc (Nat.le_refl _) _).block g HGZ.out))
  have BA := (Below.refl w.heap.size w).alloc (Nat.le_refl _) (.cells #[.string k, .slice (some ⟨b1, o1, none⟩) 3 c1, .int .i64 N] 38)
  have v0 := (BA.cell (p := ⟨b1, o1 + 0, none⟩) HB1'.out).trans HV0.out
  have v1 := (BA.cell (p := ⟨b1, o1 + 1, none⟩) HB1'.out).trans HV1.out
  have v2 := (BA.cell (p := ⟨b1, o1 + 2, none⟩) HB1'.out).trans HV2.out
  have hx0 := heap_alloc_new w (.cells #[.string k, .slice (some ⟨b1, o1, none⟩) 3 c1, .int .i64 N] 38)
  generalize (w.alloc (.cells #[.string k, .slice (some ⟨b1, o1, none⟩) 3 c1, .int .i64 N] 38)) = W0 at *
  have x0 : W0.cell? ⟨w.heap.size, 0, none⟩ = some (.string k) := by simp only [World.cell?, hx0]; rfl
  have x1 : W0.cell? ⟨w.heap.size, 1, none⟩ = some (.slice (some ⟨b1, o1, none⟩) 3 c1) := by simp only [World.cell?, hx0]; rfl
  have x2 : W0.cell? ⟨w.heap.size, 2, none⟩ = some (.int .i64 N) := by simp only [World.cell?, hx0]; rfl
  have HX := Lib.hid (show ∀ wx : World, KeptBut g w wx → True from fun _ _ => trivial)
  clear hx0 BA HX
  simp only [Nat.add_zero] at v0
  have zx : (x : Int) < (n : Int) := by omega
  have zx' : (0 : Int) ≤ (x : Int) := by omega
  have zy : (y : Int) < (n : Int) := by omega
  have zy' : (0 : Int) ≤ (y : Int) := by omega
  have zz : (z : Int) < (n : Int) := by omega
  have zz' : (0 : Int) ≤ (z : Int) := by omega
  go_upto_region 7 with fail
  go_cut [7] from 36 to 43 (fun v wx => ∃ b : Bool, v = .bool b ∧ wx = W0)
  case first =>
    by_cases hN : 0 ≤ N
    · go_wp2_with fail
      go_meet
      exact ⟨_, rfl, rfl⟩
    · go_wp2_with fail
      go_meet
      exact ⟨_, rfl, rfl⟩
  case rest =>
    obtain ⟨b, rfl, hwx⟩ := hcut
    have hwx := hwx.symm
    subst hwx
    go_upto_region 35 with fail
    clear x0 x1 x2 v0 v1 v2 k0 k1 k2 k3 k4 k5 k6 k7 zx zx' q0 zy zy' q1 zz zz' q2
    have r0 : W0.cell? ⟨g, z * 5, none⟩ = some (.int .u64 ((F z).lo : Nat)) := HR.out.cell hz 0 (by decide)
    have r1 : W0.cell? ⟨g, x * 5, none⟩ = some (.int .u64 ((F x).lo : Nat)) := HR.out.cell hx 0 (by decide)
    have r2 : W0.cell? ⟨g, y * 5 + 1, none⟩ = some (.int .u64 ((F y).hi : Nat)) := HR.out.cell hy 1 (by decide)
    have E0 := Lib.hid (have B0 := HB0.out; dNot (F x).lo (F y).hi (B0 x).1 (B0 y).2)
    have E1 := Lib.hid (have B0 := HB0.out; bits_or_u64_nat (F z).lo (sub64 (F x).lo (F y).hi) (B0 z).1 (sub64_lt (B0 x).1))
    go_still_tail 16, (by kernel_rfl)
    change wpList _ _ _ _ _ W0.drew
    replace HR := Lib.hid (show DRow W0.drew g n F G from HR.out)
    replace KB := Lib.hid (KB.out.drew')
    generalize W0.drew = W0d at *
    clear r0 r1 r2
    rw [E0.out]
    rw [E1.out]
    have rt : W0d.cell? ⟨g, z * 5, none⟩ = some (.int .u64 ((F z).lo : Nat)) := HR.out.cell hz 0 (by decide)
    have ft : W0d.frozen? ⟨g, z * 5, none⟩ = false := HR.out.frozen _
    go_upto_region 36 with fail
    clear rt ft
    clear E0 E1
    replace HR := Lib.hid (HR.out.into z ((sub64 (F x).lo (F y).hi)) ((F z).lo ||| (sub64 (F x).lo (F y).hi)) (by have B0 := HB0.out; exact rfl))
    replace KB := Lib.hid (KB.out.trans (Only.set W0d (z * 5) (.int .u64 (((F z).lo ||| (sub64 (F x).lo (F y).hi) : Nat) : Int))).kept)
    generalize W0d.setCell ⟨g, z * 5, none⟩ (.int .u64 (((F z).lo ||| (sub64 (F x).lo (F y).hi) : Nat) : Int)) = W1 at *
    have HB1 := Lib.hid (HB0.out.into z ((sub64 (F x).lo (F y).hi)) (by have B0 := HB0.out; first | exact (B0 _).1 | exact or_lt (B0 _).1 (B0 _).1 | exact sub64_lt (B0 _).1 | exact Nat.lt_of_le_of_lt Nat.and_le_left (B0 _).1))
    obtain ⟨F1, hF1⟩ : ∃ Q, intoF F z ((sub64 (F x).lo (F y).hi)) = Q := ⟨_, rfl⟩
    rw [hF1] at HB1 HR
    have r0 : W1.cell? ⟨g, x * 5, none⟩ = some (.int .u64 ((F1 x).lo : Nat)) := HR.out.cell hx 0 (by decide)
    have r1 : W1.cell? ⟨g, z * 5, none⟩ = some (.int .u64 ((F1 z).lo : Nat)) := HR.out.cell hz 0 (by decide)
    have E0 := Lib.hid (have B1 := HB1.out; bits_or_u64_nat (F1 x).lo (F1 z).lo (B1 x).1 (B1 z).1)
    go_still_tail 11, (by kernel_rfl)
    change wpList _ _ _ _ _ W1.drew
    replace HR := Lib.hid (show DRow W1.drew g n F1 G from HR.out)
    replace KB := Lib.hid (KB.out.drew')
    generalize W1.drew = W1d at *
    clear r0 r1
    rw [E0.out]
    have rt : W1d.cell? ⟨g, x * 5, none⟩ = some (.int .u64 ((F1 x).lo : Nat)) := HR.out.cell hx 0 (by decide)
    have ft : W1d.frozen? ⟨g, x * 5, none⟩ = false := HR.out.frozen _
    go_upto_region 37 with fail
    clear rt ft
    clear E0
    replace HR := Lib.hid (HR.out.into x ((F1 z).lo) ((F1 x).lo ||| (F1 z).lo) (by have B1 := HB1.out; exact rfl))
    replace KB := Lib.hid (KB.out.trans (Only.set W1d (x * 5) (.int .u64 (((F1 x).lo ||| (F1 z).lo : Nat) : Int))).kept)
    generalize W1d.setCell ⟨g, x * 5, none⟩ (.int .u64 (((F1 x).lo ||| (F1 z).lo : Nat) : Int)) = W2 at *
    have HB2 := Lib.hid (HB1.out.into x ((F1 z).lo) (by have B1 := HB1.out; first | exact (B1 _).1 | exact or_lt (B1 _).1 (B1 _).1 | exact sub64_lt (B1 _).1 | exact Nat.lt_of_le_of_lt Nat.and_le_left (B1 _).1))
    obtain ⟨F2, hF2⟩ : ∃ Q, intoF F1 x ((F1 z).lo) = Q := ⟨_, rfl⟩
    rw [hF2] at HB2 HR
    have r0 : W2.cell? ⟨g, y * 5 + 1, none⟩ = some (.int .u64 ((F2 y).hi : Nat)) := HR.out.cell hy 1 (by decide)
    have r1 : W2.cell? ⟨g, z * 5, none⟩ = some (.int .u64 ((F2 z).lo : Nat)) := HR.out.cell hz 0 (by decide)
    have E0 := Lib.hid (have B2 := HB2.out; dNot (F2 y).hi (F2 z).lo (B2 y).2 (B2 z).1)
    go_still_tail 11, (by kernel_rfl)
    change wpList _ _ _ _ _ W2.drew
    replace HR := Lib.hid (show DRow W2.drew g n F2 G from HR.out)
    replace KB := Lib.hid (KB.out.drew')
    generalize W2.drew = W2d at *
    clear r0 r1
    rw [E0.out]
    have rt : W2d.cell? ⟨g, y * 5 + 1, none⟩ = some (.int .u64 ((F2 y).hi : Nat)) := HR.out.cell hy 1 (by decide)
    have ft : W2d.frozen? ⟨g, y * 5 + 1, none⟩ = false := HR.out.frozen _
    go_upto_region 38 with fail
    clear rt ft
    clear E0
    replace HR := Lib.hid (HR.out.out y ((F2 z).lo) ((sub64 (F2 y).hi (F2 z).lo)) (by have B2 := HB2.out; exact rfl))
    replace KB := Lib.hid (KB.out.trans (Only.set W2d (y * 5 + 1) (.int .u64 (((sub64 (F2 y).hi (F2 z).lo) : Nat) : Int))).kept)
    generalize W2d.setCell ⟨g, y * 5 + 1, none⟩ (.int .u64 (((sub64 (F2 y).hi (F2 z).lo) : Nat) : Int)) = W3 at *
    have HB3 := Lib.hid (HB2.out.out y ((F2 z).lo))
    obtain ⟨F3, hF3⟩ : ∃ Q, outF F2 y ((F2 z).lo) = Q := ⟨_, rfl⟩
    rw [hF3] at HB3 HR
    have r0 : W3.cell? ⟨g, z * 5 + 1, none⟩ = some (.int .u64 ((F3 z).hi : Nat)) := HR.out.cell hz 1 (by decide)
    have r1 : W3.cell? ⟨g, x * 5 + 1, none⟩ = some (.int .u64 ((F3 x).hi : Nat)) := HR.out.cell hx 1 (by decide)
    have r2 : W3.cell? ⟨g, y * 5, none⟩ = some (.int .u64 ((F3 y).lo : Nat)) := HR.out.cell hy 0 (by decide)
    have E0 := Lib.hid (have B3 := HB3.out; dNot (F3 x).hi (F3 y).lo (B3 x).2 (B3 y).1)
    have E1 := Lib.hid (have B3 := HB3.out; bits_and_u64_nat (F3 z).hi (sub64 (F3 x).hi (F3 y).lo) (B3 z).2 (sub64_lt (B3 x).2))
    go_still_tail 16, (by kernel_rfl)
    change wpList _ _ _ _ _ W3.drew
    replace HR := Lib.hid (show DRow W3.drew g n F3 G from HR.out)
    replace KB := Lib.hid (KB.out.drew')
    generalize W3.drew = W3d at *
    clear r0 r1 r2
    rw [E0.out]
    rw [E1.out]
    have rt : W3d.cell? ⟨g, z * 5 + 1, none⟩ = some (.int .u64 ((F3 z).hi : Nat)) := HR.out.cell hz 1 (by decide)
    have ft : W3d.frozen? ⟨g, z * 5 + 1, none⟩ = false := HR.out.frozen _
    go_upto_region 39 with fail
    clear rt ft
    clear E0 E1
    replace HR := Lib.hid (HR.out.out z ((nt (F3 x).hi ||| (F3 y).lo)) ((F3 z).hi &&& (sub64 (F3 x).hi (F3 y).lo)) (by have B3 := HB3.out; exact (de4 (B3 z).2 (B3 x).2 (B3 y).1)))
    replace KB := Lib.hid (KB.out.trans (Only.set W3d (z * 5 + 1) (.int .u64 (((F3 z).hi &&& (sub64 (F3 x).hi (F3 y).lo) : Nat) : Int))).kept)
    generalize W3d.setCell ⟨g, z * 5 + 1, none⟩ (.int .u64 (((F3 z).hi &&& (sub64 (F3 x).hi (F3 y).lo) : Nat) : Int)) = W4 at *
    have HB4 := Lib.hid (HB3.out.out z ((nt (F3 x).hi ||| (F3 y).lo)))
    obtain ⟨F4, hF4⟩ : ∃ Q, outF F3 z ((nt (F3 x).hi ||| (F3 y).lo)) = Q := ⟨_, rfl⟩
    rw [hF4] at HB4 HR
    have r0 : W4.cell? ⟨g, y * 5, none⟩ = some (.int .u64 ((F4 y).lo : Nat)) := HR.out.cell hy 0 (by decide)
    have r1 : W4.cell? ⟨g, x * 5, none⟩ = some (.int .u64 ((F4 x).lo : Nat)) := HR.out.cell hx 0 (by decide)
    have r2 : W4.cell? ⟨g, z * 5 + 1, none⟩ = some (.int .u64 ((F4 z).hi : Nat)) := HR.out.cell hz 1 (by decide)
    have E0 := Lib.hid (have B4 := HB4.out; dNot (F4 x).lo (F4 z).hi (B4 x).1 (B4 z).2)
    have E1 := Lib.hid (have B4 := HB4.out; bits_or_u64_nat (F4 y).lo (sub64 (F4 x).lo (F4 z).hi) (B4 y).1 (sub64_lt (B4 x).1))
    go_still_tail 16, (by kernel_rfl)
    change wpList _ _ _ _ _ W4.drew
    replace HR := Lib.hid (show DRow W4.drew g n F4 G from HR.out)
    replace KB := Lib.hid (KB.out.drew')
    generalize W4.drew = W4d at *
    clear r0 r1 r2
    rw [E0.out]
    rw [E1.out]
    have rt : W4d.cell? ⟨g, y * 5, none⟩ = some (.int .u64 ((F4 y).lo : Nat)) := HR.out.cell hy 0 (by decide)
    have ft : W4d.frozen? ⟨g, y * 5, none⟩ = false := HR.out.frozen _
    go_upto_region 40 with fail
    clear rt ft
    clear E0 E1
    replace HR := Lib.hid (HR.out.into y ((sub64 (F4 x).lo (F4 z).hi)) ((F4 y).lo ||| (sub64 (F4 x).lo (F4 z).hi)) (by have B4 := HB4.out; exact rfl))
    replace KB := Lib.hid (KB.out.trans (Only.set W4d (y * 5) (.int .u64 (((F4 y).lo ||| (sub64 (F4 x).lo (F4 z).hi) : Nat) : Int))).kept)
    generalize W4d.setCell ⟨g, y * 5, none⟩ (.int .u64 (((F4 y).lo ||| (sub64 (F4 x).lo (F4 z).hi) : Nat) : Int)) = W5 at *
    have HB5 := Lib.hid (HB4.out.into y ((sub64 (F4 x).lo (F4 z).hi)) (by have B4 := HB4.out; first | exact (B4 _).1 | exact or_lt (B4 _).1 (B4 _).1 | exact sub64_lt (B4 _).1 | exact Nat.lt_of_le_of_lt Nat.and_le_left (B4 _).1))
    obtain ⟨F5, hF5⟩ : ∃ Q, intoF F4 y ((sub64 (F4 x).lo (F4 z).hi)) = Q := ⟨_, rfl⟩
    rw [hF5] at HB5 HR
    have r0 : W5.cell? ⟨g, z * 5 + 3, none⟩ = some (.int .i64 (F5 z).mx) := HR.out.cell hz 3 (by decide)
    have r1 : W5.cell? ⟨g, x * 5 + 3, none⟩ = some (.int .i64 (F5 x).mx) := HR.out.cell hx 3 (by decide)
    obtain ⟨V5, hV5⟩ : ∃ V, min (F5 z).mx (F5 x).mx = V := ⟨_, rfl⟩
    have E0 := Lib.hid (have B5 := HB5.out; (ite_min (F5 z).mx (F5 x).mx).trans hV5)
    have HVV := Lib.hid hV5
    clear hV5
    go_still_tail 12, (by kernel_rfl)
    change wpList _ _ _ _ _ W5.drew
    replace HR := Lib.hid (show DRow W5.drew g n F5 G from HR.out)
    replace KB := Lib.hid (KB.out.drew')
    generalize W5.drew = W5d at *
    clear r0 r1
    rw [E0.out]
    have rt : W5d.cell? ⟨g, z * 5 + 3, none⟩ = some (.int .i64 (F5 z).mx) := HR.out.cell hz 3 (by decide)
    have ft : W5d.frozen? ⟨g, z * 5 + 3, none⟩ = false := HR.out.frozen _
    go_wp2_with fail
    clear rt ft
    clear E0
    replace HR := Lib.hid (HR.out.most z ((F5 x).mx) (V5) (by have B5 := HB5.out; exact HVV.out.symm))
    replace KB := Lib.hid (KB.out.trans (Only.set W5d (z * 5 + 3) (.int .i64 (V5))).kept)
    generalize W5d.setCell ⟨g, z * 5 + 3, none⟩ (.int .i64 (V5)) = W6 at *
    clear HVV
    have HB6 := Lib.hid (HB5.out.most z ((F5 x).mx))
    obtain ⟨F6, hF6⟩ : ∃ Q, mostF F5 z ((F5 x).mx) = Q := ⟨_, rfl⟩
    rw [hF6] at HB6 HR
    exact bodyPost_end (v := .tuple #[]) (by simp [results, Tryd.results64, go_sem]) rfl ⟨rfl, by unfold minusF; simp only [hF1, hF2, hF3, hF4, hF5, hF6]; exact HR.out, KB.out⟩
end Go.Proofs.YthakhdbakmlooaaDoor
