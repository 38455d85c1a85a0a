/-
  What the document keeps of a relation, once: part.
-/
import Derived.StillTailTactics
import Derived.Test.YthakhdbakmlooaaDoorKbM
import Derived.Test.YthakhdbakmlooaaDoorKbJ
namespace Go.Proofs.YthakhdbakmlooaaDoor
set_option linter.unusedSimpArgs false
set_option linter.unusedVariables false
open Go Go.RowKit Go.Shelf Go.Ev

theorem KeptBut.drew' {g : Nat} {w w' : World} (h : KeptBut g w w') : KeptBut g w w'.drew := ⟨h.1.drew, h.2⟩
theorem dNot (a b : Nat) (ha : a < 18446744073709551616) (hb : b < 18446744073709551616) : bits .andNot .u64 (a : Int) (b : Int) = ((sub64 a b : Nat) : Int) := andNot_u64 a b ha hb
theorem wrap_small {t : Nat} (ht : t < 64) : IntKind.u64.wrap (t : Int) = t := by
  rw [IntKind.wrap_u64]
  omega
theorem shl_small (t : Nat) (ht : t < 64) : IntKind.u64.wrap ((2 : Int) ^ min (IntKind.u64.wrap (t : Int)).toNat 64) = ((2 ^ t : Nat) : Int) := by
  rw [wrap_small ht, Int.toNat_natCast, show min t 64 = t by omega]
  exact one_shl' t ht
theorem ite_max3 (a b c : Int) : (if (if a < b then b else a) < c then c else (if a < b then b else a)) = max a (max b c) := by split <;> split at * <;> omega
theorem ite_min3 (a b c : Int) : (if c < (if b < a then b else a) then c else (if b < a then b else a)) = min a (min b c) := by split <;> split at * <;> omega

set_option maxRecDepth 100000 in
set_option maxHeartbeats 16000000 in
theorem keep_part (k : ByteArray) (h : KF k.toList .part) (vs : List Int) (N : Int) (A : Option Addr) (c1 cap g n : Nat) (F : Nat → BdV) (G : Nat → Bool) (w : World) (ha : Ints w A vs) (hrel : relB .part vs n = true) (hr : DRow w g n F G) (hB : Bits F) (hAg : ∀ b o, A = some ⟨b, o, none⟩ → b ≠ g) :
    Calls Tryd.prog 64 #[.agg #[.string k, .slice A vs.length c1, .int .i64 N], .slice (some ⟨g, 0, none⟩) n cap] w fun e w' => e = .returned (.tuple #[]) ∧ DRow w' g n (kF .part vs N F) (kG .part vs N G) ∧ KeptBut g w w' := by
  obtain ⟨m, hm1, hm2, hin, hn40⟩ := relV_parts hrel
  obtain rfl : m = 2 := by simp [varsN] at hm1; omega
  have hg : g < w.heap.size := hr.lt
  obtain ⟨b1, o1, eA, hb1, g1⟩ := ha.2.2 (by omega)
  have EA := Lib.hid eA
  have q0 := hin _ (List.getElem_mem (show 0 < vs.length by omega))
  have v0 := g1 0 (by omega)
  have e0 : vs.getD 0 0 = vs[0] := by simp [List.getD_eq_getElem?_getD, List.getElem?_eq_getElem (show 0 < vs.length by omega)]
  generalize vs[0] = i0 at *
  obtain ⟨x, rfl⟩ : ∃ t : Nat, i0 = t := ⟨i0.toNat, by omega⟩
  have hx : x < n := by omega
  have q1 := hin _ (List.getElem_mem (show 1 < vs.length by omega))
  have v1 := g1 1 (by omega)
  have e1 : vs.getD 1 0 = vs[1] := by simp [List.getD_eq_getElem?_getD, List.getElem?_eq_getElem (show 1 < vs.length by omega)]
  generalize vs[1] = i1 at *
  obtain ⟨y, rfl⟩ : ∃ t : Nat, i1 = t := ⟨i1.toNat, by omega⟩
  have hy : y < n := by omega
  have HM := Lib.hid hm2
  have HAG := Lib.hid (hAg b1 o1 eA)
  have HKF := Lib.hid (show kF .part vs N F = partF F x y from by unfold kF; simp only [e0, e1, Int.toNat_natCast])
  have HKG := Lib.hid (show kG .part vs N G = G from by unfold kG; simp only [e0, Int.toNat_natCast])
  rw [HKF.out, HKG.out]
  have HR := Lib.hid hr
  have HB0 := Lib.hid hB
  have HB1' := Lib.hid hb1
  have HV0 := Lib.hid v0
  have HV1 := Lib.hid v1
  have HGZ := Lib.hid hg
  clear v0 v1 hm1 hm2 hin hn40 g1 hr hB hAg ha hrel hb1 hg e0 e1
  have hl : vs.length = 2 := HM.out
  obtain ⟨k0, k1, k2, k3, k4, k5, k6, k7⟩ := h
  simp only [Kd.is] at k0 k1 k2 k3 k4 k5 k6 k7
  rw [hl]
  clear hl
  obtain rfl := EA.out
  go_enter Tryd.func64, Tryd.ntmps64
  go_upto_region 1 with fail
  have KB := Lib.hid (show KeptBut g w (w.alloc (.cells #[.string k, .slice (some ⟨b1, o1, none⟩) 2 c1, .int .i64 N] 38)) from KeptBut.of_below ((Below.refl _ w).alloc (Nat.le_refl _) _) (Nat.le_of_lt HGZ.out))
  replace HR := Lib.hid (show DRow (w.alloc (.cells #[.string k, .slice (some ⟨b1, o1, none⟩) 2 c1, .int .i64 N] 38)) g n F G from HR.out.at (((Below.refl w.heap.size w).alloc (Nat.le_refl _) _).block g HGZ.out))
  have BA := (Below.refl w.heap.size w).alloc (Nat.le_refl _) (.cells #[.string k, .slice (some ⟨b1, o1, none⟩) 2 c1, .int .i64 N] 38)
  have v0 := (BA.cell (p := ⟨b1, o1 + 0, none⟩) HB1'.out).trans HV0.out
  have v1 := (BA.cell (p := ⟨b1, o1 + 1, none⟩) HB1'.out).trans HV1.out
  have hx0 := heap_alloc_new w (.cells #[.string k, .slice (some ⟨b1, o1, none⟩) 2 c1, .int .i64 N] 38)
  generalize (w.alloc (.cells #[.string k, .slice (some ⟨b1, o1, none⟩) 2 c1, .int .i64 N] 38)) = W0 at *
  have x0 : W0.cell? ⟨w.heap.size, 0, none⟩ = some (.string k) := by simp only [World.cell?, hx0]; rfl
  have x1 : W0.cell? ⟨w.heap.size, 1, none⟩ = some (.slice (some ⟨b1, o1, none⟩) 2 c1) := by simp only [World.cell?, hx0]; rfl
  have x2 : W0.cell? ⟨w.heap.size, 2, none⟩ = some (.int .i64 N) := by simp only [World.cell?, hx0]; rfl
  have HX := Lib.hid (show ∀ wx : World, KeptBut g w wx → True from fun _ _ => trivial)
  clear hx0 BA HX
  simp only [Nat.add_zero] at v0
  have zx : (x : Int) < (n : Int) := by omega
  have zx' : (0 : Int) ≤ (x : Int) := by omega
  have zy : (y : Int) < (n : Int) := by omega
  have zy' : (0 : Int) ≤ (y : Int) := by omega
  go_upto_region 7 with fail
  go_cut [7] from 36 to 43 (fun v wx => ∃ b : Bool, v = .bool b ∧ wx = W0)
  case first =>
    by_cases hN : 0 ≤ N
    · go_wp2_with fail
      go_meet
      exact ⟨_, rfl, rfl⟩
    · go_wp2_with fail
      go_meet
      exact ⟨_, rfl, rfl⟩
  case rest =>
    obtain ⟨b, rfl, hwx⟩ := hcut
    have hwx := hwx.symm
    subst hwx
    go_upto_region 10 with fail
    clear x0 x1 x2 v0 v1 k0 k1 k2 k3 k4 k5 k6 k7 zx zx' q0 zy zy' q1
    have r0 : W0.cell? ⟨g, y * 5, none⟩ = some (.int .u64 ((F y).lo : Nat)) := HR.out.cell hy 0 (by decide)
    have r1 : W0.cell? ⟨g, x * 5, none⟩ = some (.int .u64 ((F x).lo : Nat)) := HR.out.cell hx 0 (by decide)
    have E0 := Lib.hid (have B0 := HB0.out; bits_or_u64_nat (F y).lo (F x).lo (B0 y).1 (B0 x).1)
    go_still_tail 11, (by kernel_rfl)
    change wpList _ _ _ _ _ W0.drew
    replace HR := Lib.hid (show DRow W0.drew g n F G from HR.out)
    replace KB := Lib.hid (KB.out.drew')
    generalize W0.drew = W0d at *
    clear r0 r1
    rw [E0.out]
    have rt : W0d.cell? ⟨g, y * 5, none⟩ = some (.int .u64 ((F y).lo : Nat)) := HR.out.cell hy 0 (by decide)
    have ft : W0d.frozen? ⟨g, y * 5, none⟩ = false := HR.out.frozen _
    go_upto_region 11 with fail
    clear rt ft
    clear E0
    replace HR := Lib.hid (HR.out.into y ((F x).lo) ((F y).lo ||| (F x).lo) (by have B0 := HB0.out; exact rfl))
    replace KB := Lib.hid (KB.out.trans (Only.set W0d (y * 5) (.int .u64 (((F y).lo ||| (F x).lo : Nat) : Int))).kept)
    generalize W0d.setCell ⟨g, y * 5, none⟩ (.int .u64 (((F y).lo ||| (F x).lo : Nat) : Int)) = W1 at *
    have HB1 := Lib.hid (HB0.out.into y ((F x).lo) (by have B0 := HB0.out; first | exact (B0 _).1 | exact or_lt (B0 _).1 (B0 _).1 | exact sub64_lt (B0 _).1 | exact Nat.lt_of_le_of_lt Nat.and_le_left (B0 _).1))
    obtain ⟨F1, hF1⟩ : ∃ Q, intoF F y ((F x).lo) = Q := ⟨_, rfl⟩
    rw [hF1] at HB1 HR
    have r0 : W1.cell? ⟨g, x * 5 + 1, none⟩ = some (.int .u64 ((F1 x).hi : Nat)) := HR.out.cell hx 1 (by decide)
    have r1 : W1.cell? ⟨g, y * 5 + 1, none⟩ = some (.int .u64 ((F1 y).hi : Nat)) := HR.out.cell hy 1 (by decide)
    have E0 := Lib.hid (have B1 := HB1.out; bits_and_u64_nat (F1 x).hi (F1 y).hi (B1 x).2 (B1 y).2)
    go_still_tail 11, (by kernel_rfl)
    change wpList _ _ _ _ _ W1.drew
    replace HR := Lib.hid (show DRow W1.drew g n F1 G from HR.out)
    replace KB := Lib.hid (KB.out.drew')
    generalize W1.drew = W1d at *
    clear r0 r1
    rw [E0.out]
    have rt : W1d.cell? ⟨g, x * 5 + 1, none⟩ = some (.int .u64 ((F1 x).hi : Nat)) := HR.out.cell hx 1 (by decide)
    have ft : W1d.frozen? ⟨g, x * 5 + 1, none⟩ = false := HR.out.frozen _
    go_upto_region 12 with fail
    clear rt ft
    clear E0
    replace HR := Lib.hid (HR.out.out x (nt (F1 y).hi) ((F1 x).hi &&& (F1 y).hi) (by have B1 := HB1.out; exact (de1 (B1 x).2 (B1 y).2)))
    replace KB := Lib.hid (KB.out.trans (Only.set W1d (x * 5 + 1) (.int .u64 (((F1 x).hi &&& (F1 y).hi : Nat) : Int))).kept)
    generalize W1d.setCell ⟨g, x * 5 + 1, none⟩ (.int .u64 (((F1 x).hi &&& (F1 y).hi : Nat) : Int)) = W2 at *
    have HB2 := Lib.hid (HB1.out.out x (nt (F1 y).hi))
    obtain ⟨F2, hF2⟩ : ∃ Q, outF F1 x (nt (F1 y).hi) = Q := ⟨_, rfl⟩
    rw [hF2] at HB2 HR
    have r0 : W2.cell? ⟨g, x * 5 + 3, none⟩ = some (.int .i64 (F2 x).mx) := HR.out.cell hx 3 (by decide)
    have r1 : W2.cell? ⟨g, y * 5 + 3, none⟩ = some (.int .i64 (F2 y).mx) := HR.out.cell hy 3 (by decide)
    obtain ⟨V2, hV2⟩ : ∃ V, min (F2 x).mx (F2 y).mx = V := ⟨_, rfl⟩
    have E0 := Lib.hid (have B2 := HB2.out; (ite_min (F2 x).mx (F2 y).mx).trans hV2)
    have HVV := Lib.hid hV2
    clear hV2
    go_still_tail 12, (by kernel_rfl)
    change wpList _ _ _ _ _ W2.drew
    replace HR := Lib.hid (show DRow W2.drew g n F2 G from HR.out)
    replace KB := Lib.hid (KB.out.drew')
    generalize W2.drew = W2d at *
    clear r0 r1
    rw [E0.out]
    have rt : W2d.cell? ⟨g, x * 5 + 3, none⟩ = some (.int .i64 (F2 x).mx) := HR.out.cell hx 3 (by decide)
    have ft : W2d.frozen? ⟨g, x * 5 + 3, none⟩ = false := HR.out.frozen _
    go_upto_region 13 with fail
    clear rt ft
    clear E0
    replace HR := Lib.hid (HR.out.most x ((F2 y).mx) (V2) (by have B2 := HB2.out; exact HVV.out.symm))
    replace KB := Lib.hid (KB.out.trans (Only.set W2d (x * 5 + 3) (.int .i64 (V2))).kept)
    generalize W2d.setCell ⟨g, x * 5 + 3, none⟩ (.int .i64 (V2)) = W3 at *
    clear HVV
    have HB3 := Lib.hid (HB2.out.most x ((F2 y).mx))
    obtain ⟨F3, hF3⟩ : ∃ Q, mostF F2 x ((F2 y).mx) = Q := ⟨_, rfl⟩
    rw [hF3] at HB3 HR
    have r0 : W3.cell? ⟨g, y * 5 + 2, none⟩ = some (.int .i64 (F3 y).mn) := HR.out.cell hy 2 (by decide)
    have r1 : W3.cell? ⟨g, x * 5 + 2, none⟩ = some (.int .i64 (F3 x).mn) := HR.out.cell hx 2 (by decide)
    obtain ⟨V3, hV3⟩ : ∃ V, max (F3 y).mn (F3 x).mn = V := ⟨_, rfl⟩
    have E0 := Lib.hid (have B3 := HB3.out; (ite_max (F3 y).mn (F3 x).mn).trans hV3)
    have HVV := Lib.hid hV3
    clear hV3
    go_still_tail 12, (by kernel_rfl)
    change wpList _ _ _ _ _ W3.drew
    replace HR := Lib.hid (show DRow W3.drew g n F3 G from HR.out)
    replace KB := Lib.hid (KB.out.drew')
    generalize W3.drew = W3d at *
    clear r0 r1
    rw [E0.out]
    have rt : W3d.cell? ⟨g, y * 5 + 2, none⟩ = some (.int .i64 (F3 y).mn) := HR.out.cell hy 2 (by decide)
    have ft : W3d.frozen? ⟨g, y * 5 + 2, none⟩ = false := HR.out.frozen _
    go_wp2_with fail
    clear rt ft
    clear E0
    replace HR := Lib.hid (HR.out.least y ((F3 x).mn) (V3) (by have B3 := HB3.out; exact HVV.out.symm))
    replace KB := Lib.hid (KB.out.trans (Only.set W3d (y * 5 + 2) (.int .i64 (V3))).kept)
    generalize W3d.setCell ⟨g, y * 5 + 2, none⟩ (.int .i64 (V3)) = W4 at *
    clear HVV
    have HB4 := Lib.hid (HB3.out.least y ((F3 x).mn))
    obtain ⟨F4, hF4⟩ : ∃ Q, leastF F3 y ((F3 x).mn) = Q := ⟨_, rfl⟩
    rw [hF4] at HB4 HR
    exact bodyPost_end (v := .tuple #[]) (by simp [results, Tryd.results64, go_sem]) rfl ⟨rfl, by unfold partF; simp only [hF1, hF2, hF3, hF4]; exact HR.out, KB.out⟩
end Go.Proofs.YthakhdbakmlooaaDoor
