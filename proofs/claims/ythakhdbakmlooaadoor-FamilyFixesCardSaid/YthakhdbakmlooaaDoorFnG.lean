/-
  What the document keeps of a relation, once: size.
-/
import Derived.StillTailTactics
import Derived.Test.YthakhdbakmlooaaDoorKbM
import Derived.Test.YthakhdbakmlooaaDoorKbJ
import Derived.Test.YthakhdbakmlooaaDoorFnC
namespace Go.Proofs.YthakhdbakmlooaaDoor
set_option linter.unusedSimpArgs false
set_option linter.unusedVariables false
open Go Go.RowKit Go.Shelf Go.Ev

set_option maxRecDepth 100000 in
set_option maxHeartbeats 16000000 in
theorem keep_size (k : ByteArray) (h : KF k.toList .size) (vs : List Int) (N : Int) (A : Option Addr) (c1 cap g n : Nat) (F : Nat → BdV) (G : Nat → Bool) (w : World) (ha : Ints w A vs) (hrel : relB .size vs n = true) (hr : DRow w g n F G) (hB : Bits F) (hAg : ∀ b o, A = some ⟨b, o, none⟩ → b ≠ g) :
    Calls Tryd.prog 64 #[.agg #[.string k, .slice A vs.length c1, .int .i64 N], .slice (some ⟨g, 0, none⟩) n cap] w fun e w' => e = .returned (.tuple #[]) ∧ DRow w' g n (kF .size vs N F) (kG .size vs N G) ∧ KeptBut g w w' := by
  obtain ⟨m, hm1, hm2, hin, hn40⟩ := relV_parts hrel
  obtain rfl : m = 1 := by simp [varsN] at hm1; omega
  have hg : g < w.heap.size := hr.lt
  obtain ⟨b1, o1, eA, hb1, g1⟩ := ha.2.2 (by omega)
  have EA := Lib.hid eA
  have q0 := hin _ (List.getElem_mem (show 0 < vs.length by omega))
  have v0 := g1 0 (by omega)
  have e0 : vs.getD 0 0 = vs[0] := by simp [List.getD_eq_getElem?_getD, List.getElem?_eq_getElem (show 0 < vs.length by omega)]
  generalize vs[0] = i0 at *
  obtain ⟨x, rfl⟩ : ∃ t : Nat, i0 = t := ⟨i0.toNat, by omega⟩
  have hx : x < n := by omega
  have HM := Lib.hid hm2
  have HAG := Lib.hid (hAg b1 o1 eA)
  have HKF := Lib.hid (show kF .size vs N F = mostF (leastF F x N) x N from by unfold kF; simp only [e0, Int.toNat_natCast])
  have HKG := Lib.hid (show kG .size vs N G = G from by unfold kG; simp only [e0, Int.toNat_natCast])
  obtain ⟨KV, hKV⟩ : ∃ v, kF .size vs N F = v := ⟨_, rfl⟩
  obtain ⟨GV, hGV⟩ : ∃ v, kG .size vs N G = v := ⟨_, rfl⟩
  rw [hKV, hGV]
  replace HKF := Lib.hid (hKV.symm.trans HKF.out)
  replace HKG := Lib.hid (hGV.symm.trans HKG.out)
  clear hKV hGV
  have HR := Lib.hid hr
  have HB0 := Lib.hid hB
  have HB1' := Lib.hid hb1
  have HV0 := Lib.hid v0
  have HGZ := Lib.hid hg
  clear v0 hm1 hm2 hin hn40 g1 hr hB hAg ha hrel hb1 hg e0
  have hl : vs.length = 1 := HM.out
  obtain ⟨k0, k1, k2, k3, k4, k5, k6, k7⟩ := h
  simp only [Kd.is] at k0 k1 k2 k3 k4 k5 k6 k7
  rw [hl]
  clear hl
  obtain rfl := EA.out
  go_enter Tryd.func64, Tryd.ntmps64
  go_upto_region 1 with fail
  have KB := Lib.hid (show KeptBut g w (w.alloc (.cells #[.string k, .slice (some ⟨b1, o1, none⟩) 1 c1, .int .i64 N] 38)) from KeptBut.of_below ((Below.refl _ w).alloc (Nat.le_refl _) _) (Nat.le_of_lt HGZ.out))
  replace HR := Lib.hid (show DRow (w.alloc (.cells #[.string k, .slice (some ⟨b1, o1, none⟩) 1 c1, .int .i64 N] 38)) g n F G from HR.out.at (((Below.refl w.heap.size w).alloc (Nat.le_refl _) _).block g HGZ.out))
  have BA := (Below.refl w.heap.size w).alloc (Nat.le_refl _) (.cells #[.string k, .slice (some ⟨b1, o1, none⟩) 1 c1, .int .i64 N] 38)
  have v0 := (BA.cell (p := ⟨b1, o1 + 0, none⟩) HB1'.out).trans HV0.out
  have hx0 := heap_alloc_new w (.cells #[.string k, .slice (some ⟨b1, o1, none⟩) 1 c1, .int .i64 N] 38)
  generalize (w.alloc (.cells #[.string k, .slice (some ⟨b1, o1, none⟩) 1 c1, .int .i64 N] 38)) = W0 at *
  have x0 : W0.cell? ⟨w.heap.size, 0, none⟩ = some (.string k) := by simp only [World.cell?, hx0]; rfl
  have x1 : W0.cell? ⟨w.heap.size, 1, none⟩ = some (.slice (some ⟨b1, o1, none⟩) 1 c1) := by simp only [World.cell?, hx0]; rfl
  have x2 : W0.cell? ⟨w.heap.size, 2, none⟩ = some (.int .i64 N) := by simp only [World.cell?, hx0]; rfl
  have HX := Lib.hid (show ∀ wx : World, KeptBut g w wx → True from fun _ _ => trivial)
  clear hx0 BA HX
  simp only [Nat.add_zero] at v0
  have zx : (x : Int) < (n : Int) := by omega
  have zx' : (0 : Int) ≤ (x : Int) := by omega
  have XN := Lib.hid (show ∀ wx, Only g W0 wx → wx.cell? ⟨w.heap.size, 2, none⟩ = some (.int .i64 N) from fun wx h => (h.cell (by have := HGZ.out; omega)).trans x2)
  have OO := Lib.hid (Only.refl g W0)
  go_upto_region 7 with fail
  go_cut [7] from 36 to 43 (fun v wx => ∃ b : Bool, v = .bool b ∧ wx = W0)
  case first =>
    by_cases hN : 0 ≤ N
    · go_wp2_with fail
      go_meet
      exact ⟨_, rfl, rfl⟩
    · go_wp2_with fail
      go_meet
      exact ⟨_, rfl, rfl⟩
  case rest =>
    obtain ⟨b, rfl, hwx⟩ := hcut
    have hwx := hwx.symm
    subst hwx
    go_upto_region 49 with fail
    clear x0 x1 x2 v0 k0 k1 k2 k3 k4 k5 k6 k7 zx zx' q0
    have r0 : W0.cell? ⟨g, x * 5 + 2, none⟩ = some (.int .i64 (F x).mn) := HR.out.cell hx 2 (by decide)
    have x2 := XN.out _ OO.out
    have E0 := Lib.hid (ite_max (F x).mn N)
    go_still_tail 10, (by kernel_rfl)
    change wpList _ _ _ _ _ W0.drew
    replace HR := Lib.hid (show DRow W0.drew g n F G from HR.out)
    replace KB := Lib.hid (KB.out.drew')
    replace OO := Lib.hid OO.out.drew
    generalize W0.drew = W0d at *
    clear r0 x2
    rw [E0.out]
    have rt : W0d.cell? ⟨g, x * 5 + 2, none⟩ = some (.int .i64 (F x).mn) := HR.out.cell hx 2 (by decide)
    have ft : W0d.frozen? ⟨g, x * 5 + 2, none⟩ = false := HR.out.frozen _
    go_upto_region 50 with fail
    clear rt ft
    replace HR := Lib.hid (HR.out.least x N _ rfl)
    replace KB := Lib.hid (KB.out.trans (Only.set W0d (x * 5 + 2) (.int .i64 (max (F x).mn N))).kept)
    replace OO := Lib.hid (OO.out.trans (Only.set W0d (x * 5 + 2) (.int .i64 (max (F x).mn N))))
    generalize W0d.setCell ⟨g, x * 5 + 2, none⟩ (.int .i64 (max (F x).mn N)) = W1 at *
    obtain ⟨F1, hF1⟩ : ∃ Q, leastF F x N = Q := ⟨_, rfl⟩
    rw [hF1] at HR
    have r0 : W1.cell? ⟨g, x * 5 + 3, none⟩ = some (.int .i64 (F1 x).mx) := HR.out.cell hx 3 (by decide)
    have x2 := XN.out _ OO.out
    have E0 := Lib.hid (ite_min (F1 x).mx N)
    go_still_tail 10, (by kernel_rfl)
    change wpList _ _ _ _ _ W1.drew
    replace HR := Lib.hid (show DRow W1.drew g n F1 G from HR.out)
    replace KB := Lib.hid (KB.out.drew')
    replace OO := Lib.hid OO.out.drew
    generalize W1.drew = W1d at *
    clear r0 x2
    rw [E0.out]
    have rt : W1d.cell? ⟨g, x * 5 + 3, none⟩ = some (.int .i64 (F1 x).mx) := HR.out.cell hx 3 (by decide)
    have ft : W1d.frozen? ⟨g, x * 5 + 3, none⟩ = false := HR.out.frozen _
    go_wp2_with fail
    clear rt ft
    replace HR := Lib.hid (HR.out.most x N _ rfl)
    replace KB := Lib.hid (KB.out.trans (Only.set W1d (x * 5 + 3) (.int .i64 (min (F1 x).mx N))).kept)
    replace OO := Lib.hid (OO.out.trans (Only.set W1d (x * 5 + 3) (.int .i64 (min (F1 x).mx N))))
    generalize W1d.setCell ⟨g, x * 5 + 3, none⟩ (.int .i64 (min (F1 x).mx N)) = W2 at *
    exact bodyPost_end (v := .tuple #[]) (by simp [results, Tryd.results64, go_sem]) rfl ⟨rfl, by rw [HKF.out, HKG.out]; first | exact HR.out | (rw [hF1]; exact HR.out), KB.out⟩
end Go.Proofs.YthakhdbakmlooaaDoor
