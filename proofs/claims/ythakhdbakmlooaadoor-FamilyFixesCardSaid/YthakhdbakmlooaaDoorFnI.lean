/-
  What the document keeps of a relation, once: lacks.
-/
import Derived.StillTailTactics
import Derived.Test.YthakhdbakmlooaaDoorKbM
import Derived.Test.YthakhdbakmlooaaDoorKbJ
import Derived.Test.YthakhdbakmlooaaDoorFnC
namespace Go.Proofs.YthakhdbakmlooaaDoor
set_option linter.unusedSimpArgs false
set_option linter.unusedVariables false
open Go Go.RowKit Go.Shelf Go.Ev

set_option maxRecDepth 100000 in
set_option maxHeartbeats 16000000 in
theorem keep_lacks (k : ByteArray) (h : KF k.toList .lacks) (vs : List Int) (N : Int) (A : Option Addr) (c1 cap g n : Nat) (F : Nat → BdV) (G : Nat → Bool) (w : World) (ha : Ints w A vs) (hrel : relB .lacks vs n = true) (hr : DRow w g n F G) (hB : Bits F) (hAg : ∀ b o, A = some ⟨b, o, none⟩ → b ≠ g) :
    Calls Tryd.prog 64 #[.agg #[.string k, .slice A vs.length c1, .int .i64 N], .slice (some ⟨g, 0, none⟩) n cap] w fun e w' => e = .returned (.tuple #[]) ∧ DRow w' g n (kF .lacks vs N F) (kG .lacks vs N G) ∧ KeptBut g w w' := by
  obtain ⟨m, hm1, hm2, hin, hn40⟩ := relV_parts hrel
  obtain rfl : m = 1 := by simp [varsN] at hm1; omega
  have hg : g < w.heap.size := hr.lt
  obtain ⟨b1, o1, eA, hb1, g1⟩ := ha.2.2 (by omega)
  have EA := Lib.hid eA
  have q0 := hin _ (List.getElem_mem (show 0 < vs.length by omega))
  have v0 := g1 0 (by omega)
  have e0 : vs.getD 0 0 = vs[0] := by simp [List.getD_eq_getElem?_getD, List.getElem?_eq_getElem (show 0 < vs.length by omega)]
  generalize vs[0] = i0 at *
  obtain ⟨x, rfl⟩ : ∃ t : Nat, i0 = t := ⟨i0.toNat, by omega⟩
  have hx : x < n := by omega
  have HM := Lib.hid hm2
  have HAG := Lib.hid (hAg b1 o1 eA)
  have HKF := Lib.hid (show kF .lacks vs N F = (if inR N = true then outF F x (2 ^ N.toNat) else F) from by unfold kF; simp only [e0, Int.toNat_natCast])
  have HKG := Lib.hid (show kG .lacks vs N G = G from by unfold kG; simp only [e0, Int.toNat_natCast])
  obtain ⟨KV, hKV⟩ : ∃ v, kF .lacks vs N F = v := ⟨_, rfl⟩
  obtain ⟨GV, hGV⟩ : ∃ v, kG .lacks vs N G = v := ⟨_, rfl⟩
  rw [hKV, hGV]
  replace HKF := Lib.hid (hKV.symm.trans HKF.out)
  replace HKG := Lib.hid (hGV.symm.trans HKG.out)
  clear hKV hGV
  have HR := Lib.hid hr
  have HB0 := Lib.hid hB
  have HB1' := Lib.hid hb1
  have HV0 := Lib.hid v0
  have HGZ := Lib.hid hg
  clear v0 hm1 hm2 hin hn40 g1 hr hB hAg ha hrel hb1 hg e0
  have hl : vs.length = 1 := HM.out
  obtain ⟨k0, k1, k2, k3, k4, k5, k6, k7⟩ := h
  simp only [Kd.is] at k0 k1 k2 k3 k4 k5 k6 k7
  rw [hl]
  clear hl
  obtain rfl := EA.out
  go_enter Tryd.func64, Tryd.ntmps64
  go_upto_region 1 with fail
  have KB := Lib.hid (show KeptBut g w (w.alloc (.cells #[.string k, .slice (some ⟨b1, o1, none⟩) 1 c1, .int .i64 N] 38)) from KeptBut.of_below ((Below.refl _ w).alloc (Nat.le_refl _) _) (Nat.le_of_lt HGZ.out))
  replace HR := Lib.hid (show DRow (w.alloc (.cells #[.string k, .slice (some ⟨b1, o1, none⟩) 1 c1, .int .i64 N] 38)) g n F G from HR.out.at (((Below.refl w.heap.size w).alloc (Nat.le_refl _) _).block g HGZ.out))
  have BA := (Below.refl w.heap.size w).alloc (Nat.le_refl _) (.cells #[.string k, .slice (some ⟨b1, o1, none⟩) 1 c1, .int .i64 N] 38)
  have v0 := (BA.cell (p := ⟨b1, o1 + 0, none⟩) HB1'.out).trans HV0.out
  have hx0 := heap_alloc_new w (.cells #[.string k, .slice (some ⟨b1, o1, none⟩) 1 c1, .int .i64 N] 38)
  generalize (w.alloc (.cells #[.string k, .slice (some ⟨b1, o1, none⟩) 1 c1, .int .i64 N] 38)) = W0 at *
  have x0 : W0.cell? ⟨w.heap.size, 0, none⟩ = some (.string k) := by simp only [World.cell?, hx0]; rfl
  have x1 : W0.cell? ⟨w.heap.size, 1, none⟩ = some (.slice (some ⟨b1, o1, none⟩) 1 c1) := by simp only [World.cell?, hx0]; rfl
  have x2 : W0.cell? ⟨w.heap.size, 2, none⟩ = some (.int .i64 N) := by simp only [World.cell?, hx0]; rfl
  have HX := Lib.hid (show ∀ wx : World, KeptBut g w wx → True from fun _ _ => trivial)
  clear hx0 BA HX
  simp only [Nat.add_zero] at v0
  have zx : (x : Int) < (n : Int) := by omega
  have zx' : (0 : Int) ≤ (x : Int) := by omega
  have XN := Lib.hid (show ∀ wx, Only g W0 wx → wx.cell? ⟨w.heap.size, 2, none⟩ = some (.int .i64 N) from fun wx h => (h.cell (by have := HGZ.out; omega)).trans x2)
  have OO := Lib.hid (Only.refl g W0)
  by_cases hN : 0 ≤ N ∧ N ≤ 63
  · obtain ⟨n1, n2⟩ := hN
    have hI : inR N = true := by simp only [inR, Bool.and_eq_true, decide_eq_true_eq]; omega
    have HI := Lib.hid hI
    obtain ⟨t, rfl⟩ : ∃ t : Nat, N = t := ⟨N.toNat, by omega⟩
    clear hI
    go_upto_region 47 with fail
    have HT := Lib.hid (show t < 64 by omega)
    have MN := Lib.hid (show min t 64 = t by omega)
    have SH := Lib.hid (shl_small t (by omega))
    clear n1 n2
    clear x0 x1 x2 v0 k0 k1 k2 k3 k4 k5 k6 k7 zx zx' q0
    have r0 : W0.cell? ⟨g, x * 5 + 1, none⟩ = some (.int .u64 ((F x).hi : Nat)) := HR.out.cell hx 1 (by decide)
    have x2 := XN.out _ OO.out
    have E0 := Lib.hid (SH.out)
    have E1 := Lib.hid (dNot (F x).hi (2 ^ t) (HB0.out x).2 (two_lt HT.out))
    go_still_tail 11, (by kernel_rfl)
    change wpList _ _ _ _ _ W0.drew
    replace HR := Lib.hid (show DRow W0.drew g n F G from HR.out)
    replace KB := Lib.hid (KB.out.drew')
    replace OO := Lib.hid OO.out.drew
    generalize W0.drew = W0d at *
    clear r0 x2
    try rw [MN.out]
    rw [E0.out]
    rw [E1.out]
    have rt : W0d.cell? ⟨g, x * 5 + 1, none⟩ = some (.int .u64 ((F x).hi : Nat)) := HR.out.cell hx 1 (by decide)
    have ft : W0d.frozen? ⟨g, x * 5 + 1, none⟩ = false := HR.out.frozen _
    go_wp2_with fail
    clear rt ft
    replace HR := Lib.hid (HR.out.out x (2 ^ t) _ rfl)
    replace KB := Lib.hid (KB.out.trans (Only.set W0d (x * 5 + 1) (.int .u64 ((sub64 (F x).hi (2 ^ t) : Nat) : Int))).kept)
    replace OO := Lib.hid (OO.out.trans (Only.set W0d (x * 5 + 1) (.int .u64 ((sub64 (F x).hi (2 ^ t) : Nat) : Int))))
    generalize W0d.setCell ⟨g, x * 5 + 1, none⟩ (.int .u64 ((sub64 (F x).hi (2 ^ t) : Nat) : Int)) = W2 at *
    exact bodyPost_end (v := .tuple #[]) (by simp [results, Tryd.results64, go_sem]) rfl ⟨rfl, by rw [HKF.out, HKG.out, HI.out]; simp only [Int.toNat_natCast, if_true]; exact HR.out, KB.out⟩
  · have hI : inR N = false := by rw [← Bool.not_eq_true]; simp only [inR, Bool.and_eq_true, decide_eq_true_eq]; omega
    have HI := Lib.hid hI
    clear hI
    by_cases n1 : 0 ≤ N
    · have n2 : ¬ N ≤ 63 := by omega
      clear hN
      go_wp2_with fail
      exact bodyPost_end (v := .tuple #[]) (by simp [results, Tryd.results64, go_sem]) rfl ⟨rfl, by rw [HKF.out, HKG.out, HI.out]; simp only [if_false, Bool.false_eq_true]; exact HR.out, KB.out⟩
    · clear hN
      go_wp2_with fail
      exact bodyPost_end (v := .tuple #[]) (by simp [results, Tryd.results64, go_sem]) rfl ⟨rfl, by rw [HKF.out, HKG.out, HI.out]; simp only [if_false, Bool.false_eq_true]; exact HR.out, KB.out⟩
end Go.Proofs.YthakhdbakmlooaaDoor
