/-
  The law FamilyFixes where all is light.
-/
import Derived.Deep.RegionHeld
import Derived.Test.YthakhdbakmlooaaDoorKbR
namespace Go.Proofs.YthakhdbakmlooaaDoor
set_option linter.unusedSimpArgs false
set_option linter.unusedVariables false
open Go Go.RowKit Go.Shelf Go.Ev

/-- no families, as they are answered with an error -/
theorem alike_none (w : World) : Calls Tryd.prog 28 #[.slice none 0 0, .slice none 0 0] w fun e w' => e = .returned (.bool true) ∧ Below w.heap.size w w' :=
  alike_true [] [] none none 0 0 w ⟨Nat.zero_le _, fun h => absurd h (Nat.lt_irrefl 0)⟩ ⟨Nat.zero_le _, fun h => absurd h (Nat.lt_irrefl 0)⟩ rfl (fun f h => by cases h) (fun i h => absurd h (Nat.not_lt_zero i))
set_option maxRecDepth 100000 in
set_option maxHeartbeats 64000000 in
theorem FamilyFixes_light (rs : List RelV) (fs : List FamV) (t : Nat) (n : Int) (A B : Option Addr) (c1 c2 : Nat) (w : World) (ht : t ≤ 255) (ha : RelsL w A rs) (hb : FamsLie w B fs) (hac : RelsC w A rs) (hbc : FamsC w B fs) (hT : TabIn w)
    (h1 : (fs.all famLight && decide (fs.length ≤ 50)) = true) (h2 : (rs.all relLean && decide (rs.length ≤ 110)) = true) :
    Calls Tryd.prog 6 #[.slice A rs.length c1, .slice B fs.length c2, .int .u8 (t : Int), .int .i64 n] w fun e w' => e = .returned (.bool true) ∧ Below w.heap.size w w' := by
  have hw0 := hT.lt
  have AW := Lib.hid (fun w1 (h : Below w.heap.size w w1) => fawake_any w1 (hT.below h hw0))
  have LT := Lib.hid (fun w1 (h : Below w.heap.size w w1) => lights_any fs B c2 w1 (by have := hb.1; omega) (hbc.over h))
  have LN := Lib.hid (fun w1 (h : Below w.heap.size w w1) => leans_any rs A c1 w1 (by have := ha.1; omega) (hac.over h))
  have FX := Lib.hid (fun w1 (h : Below w.heap.size w w1) => Fix_any rs fs A B c1 c2 w1 (ha.over h) (hb.over h) (hT.below h hw0))
  have FD := Lib.hid (fun w1 (h : Below w.heap.size w w1) => FixD_any rs fs A B c1 c2 w1 (ha.over h) (hb.over h))
  have FO := Lib.hid (fun w1 (h : Below w.heap.size w w1) A' c' (hl : RelsL w1 A' (turnK rs t rs.length)) => show Calls Tryd.prog 26 #[.slice A' rs.length c', .slice B fs.length c2] w1 (FixRes (turnK rs t rs.length) fs w1) from by
    have := Fix_any (turnK rs t rs.length) fs A' B c' c2 w1 hl (hb.over h) (hT.below h hw0)
    rwa [turnK_length] at this)
  have FG := Lib.hid (fun w1 (h : Below w.heap.size w w1) A' c' (hl : RelsL w1 A' (turnK rs t rs.length)) (gs : List FamV) Ag cg m (hm : gs.length = m) (hg : FamsLie w1 Ag gs) => show Calls Tryd.prog 26 #[.slice A' rs.length c', .slice Ag m cg] w1 (FixRes (turnK rs t rs.length) gs w1) from by
    have := Fix_any (turnK rs t rs.length) gs A' Ag c' cg w1 hl hg (hT.below h hw0)
    rwa [turnK_length, hm] at this)
  rw [h1] at LT
  rw [h2] at LN
  have HN := Lib.hid (show fs.length ≤ 50 from by simp only [Bool.and_eq_true, decide_eq_true_eq] at h1; exact h1.2)
  have HM := Lib.hid (show rs.length ≤ 110 from by simp only [Bool.and_eq_true, decide_eq_true_eq] at h2; exact h2.2)
  have HTT := Lib.hid ht
  have HA := Lib.hid ha
  have B0 := Lib.hid (Below.refl w.heap.size w)
  clear hT hw0 ha hb hac hbc h1 h2 ht
  go_enter Tryd.func6, Tryd.ntmps6
  go_wp2_with (first | (go_at_call 7; refine (LT.out _ B0.out).mono ?_; rintro e y1 ⟨rfl, hb⟩; have B1 := Lib.hid hb; clear hb LT) | (go_at_call 23; refine (LN.out _ B1.out).mono ?_; rintro e y2 ⟨rfl, hb⟩; have B2 := Lib.hid (B1.out.trans (hb.mono B1.out.size)); clear hb LN B1))
  refine (FX.out _ B2.out).mono ?_
  rintro e w3 ⟨hres, hbl⟩
  have B3 := Lib.hid (B2.out.trans (hbl.mono B2.out.size))
  clear hbl B2 FX
  rcases hres with ⟨hv, rfl⟩ | ⟨hv, hbad, rfl⟩ | ⟨hv, hok, H, g, hs, hH, rfl, hg, hout⟩
  · have HV := Lib.hid hv
    clear hv
    go_wp2_with fail
    refine (FD.out _ B3.out).mono ?_
    rintro e w4 ⟨hres, hbl⟩
    have B34 := Lib.hid hbl
    have B4 := Lib.hid (B3.out.trans (hbl.mono B3.out.size))
    clear hbl FD
    rcases hres with ⟨hv, rfl⟩ | ⟨hv, hbad, rfl⟩ | ⟨hv, hok, K, Ad, cd, rl, hds, hcls, rfl, hrl, hfl, hre⟩
    · clear hv
      go_wp2_with (go_at_call 28; refine (alike_none _).mono ?_; rintro e w5 ⟨rfl, hb⟩; have B45 := Lib.hid hb; have B5 := Lib.hid (B4.out.trans (hb.mono B4.out.size)); clear hb)
      go_loopw [13, 14, 15, 52] (fun v13 _ _ cnt wr => ∃ k : Nat, k ≤ rs.length ∧ cnt = .int .i64 k ∧ wr.ownsRow w5.heap.size 38 3 v13 (turnK rs t k).length (flatR (turnK rs t k)) ∧ Below w5.heap.size w5 wr) (fun _ _ _ i _ => rs.length - (intOf i).toNat)
      case atStart => exact ⟨0, Nat.zero_le _, rfl, World.ownsRow_nil _ _ _ _, Below.refl _ _⟩
      case round =>
        obtain ⟨k, hk, rfl, hown, hbw⟩ := hrel
        obtain ⟨w6, rfl⟩ : ∃ x, x = wr := ⟨_, rfl⟩
        have OW := Lib.hid hown
        have B56 := Lib.hid hbw
        have BW6 := Lib.hid (B5.out.trans (hbw.mono B5.out.size))
        clear hown hbw
        by_cases hlt : k < rs.length
        · obtain ⟨b1, o1, eA, hb1, hf⟩ := HA.out.2 (by omega)
          have hlt2 : turnI rs.length t k < rs.length := turnI_lt (by omega)
          have TS := Lib.hid (turnK_succ rs t k (by omega))
          have TI := Lib.hid (show turnI rs.length t k = (rs.length - 1 - k + t) % rs.length from rfl)
          have LI := Lib.hid ((hf k hlt).over hb1 BW6.out)
          have LJ := Lib.hid (fun w1 (h : Below w.heap.size w w1) => (hf _ hlt2).over hb1 h)
          have EA := Lib.hid eA
          clear hf hb1 eA
          generalize rs[turnI rs.length t k] = r2 at *
          simp only [turnI] at LJ
          generalize rs[k] = r at *
          obtain rfl := EA.out
          obtain ⟨a0, a1, a2, a3, a4⟩ := LI.out
          have VP := Lib.hid (fun w1 (h : Below w6.heap.size w6 w1) => ValidRel_p_any r.k r.d a3 r.vs r.N n r.A r.c w1 (a4.over h))
          have VR := Lib.hid (fun w1 (h : Below w6.heap.size w6 w1) => ValidRel_r_any r.k r.d a3 r.vs r.N n r.A r.c w1 (a4.over h))
          generalize relB r.d r.vs n = rb at *
          have z1 : (k : Int) < (rs.length : Int) := by omega
          have z2 : (0 : Int) ≤ (k : Int) := by omega
          have z3 : rs.length ≤ 110 := HM.out
          have z4 : t ≤ 255 := HTT.out
          have z5 : (0 : Int) ≤ ((rs.length : Int) - 1 - k + t) % rs.length := Int.emod_nonneg _ (by omega)
          have z6 : ((rs.length : Int) - 1 - k + t) % rs.length < (rs.length : Int) := Int.emod_lt_of_pos _ (by omega)
          clear TI hlt2
          clear a3 a4 LI
          go_upto_region 11 with fail
          clear a0 a1 a2
          have BX := Lib.hid (show Below w6.heap.size w6 (w6.alloc (.cells #[.string r.k, .slice r.A r.vs.length r.c, .int .i64 r.N] 38)) from (Below.refl _ w6).alloc (Nat.le_refl _) _)
          have hx0 := heap_alloc_new w6 (.cells #[.string r.k, .slice r.A r.vs.length r.c, .int .i64 r.N] 38)
          have SZ := Lib.hid (show (w6.alloc (.cells #[.string r.k, .slice r.A r.vs.length r.c, .int .i64 r.N] 38)).heap.size = w6.heap.size + 1 from by simp)
          generalize (w6.alloc (.cells #[.string r.k, .slice r.A r.vs.length r.c, .int .i64 r.N] 38)) = W1 at *
          have SX := Lib.hid (show ∀ W, Below (w6.heap.size + 1) W1 W → (fun (wx : World) => wx.cell? ⟨w6.heap.size, 0, none⟩ = some (.string r.k) ∧ wx.cell? ⟨w6.heap.size, 1, none⟩ = some (.slice r.A r.vs.length r.c) ∧ wx.cell? ⟨w6.heap.size, 2, none⟩ = some (.int .i64 r.N)) W from fun W h => by
            have hh := (h.block w6.heap.size (by omega)).trans hx0
            refine ⟨?_, ?_, ?_⟩ <;> (simp only [World.cell?, hh]; rfl))
          have HX0 := Lib.hid (show Below (w6.heap.size + 1) W1 W1.drew from (Below.refl _ W1).drew)
          have HY0 := Lib.hid (show Below w6.heap.size w6 W1.drew from BX.out.drew)
          have S0 := SX.out _ HX0.out
          have D0 := Lib.hid (show w6.heap.size + 1 ≤ W1.drew.heap.size from by show _ ≤ W1.heap.size; have := SZ.out; omega)
          refine wp_region_held_drew (S := fun (wx : World) => wx.cell? ⟨w6.heap.size, 0, none⟩ = some (.string r.k) ∧ wx.cell? ⟨w6.heap.size, 1, none⟩ = some (.slice r.A r.vs.length r.c) ∧ wx.cell? ⟨w6.heap.size, 2, none⟩ = some (.int .i64 r.N)) (by kernel_rfl) S0 (fun hHeld => ?_)
          clear S0 hx0
          generalize W1.drew = V at *
          refine wpAnyH_take (i := 0) (oi := ⟨some 57, .load 38 (.tmp 15), 38, "law.go:112", #[], none⟩) (v := ?vn1k0) rfl (by kernel_rfl) (by kernel_rfl) (by kernel_rfl) (fun _ _ _ h => h) (Or.inl ⟨by kernel_rfl, ?yn1k0⟩) (by assumption) ?rn1k0
          case yn1k0 => intro w hSw; (try dsimp only at hSw); go_simp; try with_reducible rfl
          try simp only [Act.put, List.setIfInBounds_toArray, List.set_cons_zero, List.set_cons_succ]
          refine wpAnyH_take (i := 1) (oi := ⟨some 58, .move (.tmp 3), 3, "law.go:112", #[], none⟩) (v := ?vn2k1) rfl (by kernel_rfl) (by kernel_rfl) (by kernel_rfl) (fun _ _ _ h => h) (Or.inl ⟨by kernel_rfl, ?yn2k1⟩) (by assumption) ?rn2k1
          case yn2k1 => intro w hSw; (try dsimp only at hSw); go_simp; try with_reducible rfl
          try simp only [Act.put, List.setIfInBounds_toArray, List.set_cons_zero, List.set_cons_succ]
          refine wpAnyH_take (i := 3) (oi := ⟨some 60, .load 38 (.tmp 15), 38, "law.go:112", #[], none⟩) (v := ?vn3k3) rfl (by kernel_rfl) (by kernel_rfl) (by kernel_rfl) (fun _ _ _ h => h) (Or.inl ⟨by kernel_rfl, ?yn3k3⟩) (by assumption) ?rn3k3
          case yn3k3 => intro w hSw; (try dsimp only at hSw); go_simp; try with_reducible rfl
          try simp only [Act.put, List.setIfInBounds_toArray, List.set_cons_zero, List.set_cons_succ]
          refine wpAnyH_take (i := 4) (oi := ⟨some 61, .move (.tmp 3), 3, "law.go:112", #[], none⟩) (v := ?vn4k4) rfl (by kernel_rfl) (by kernel_rfl) (by kernel_rfl) (fun _ _ _ h => h) (Or.inl ⟨by kernel_rfl, ?yn4k4⟩) (by assumption) ?rn4k4
          case yn4k4 => intro w hSw; (try dsimp only at hSw); go_simp; try with_reducible rfl
          try simp only [Act.put, List.setIfInBounds_toArray, List.set_cons_zero, List.set_cons_succ]
          refine wpAnyH_ready (rs := [2]) (by kernel_rfl) (by simp) (AllReadyH.cons (o := ⟨some 59, .call { callee := Callee.value (.func 29), args := #[.tmp 57, .tmp 58], argTypes := #[38, 3] }, 4, "law.go:112", #[⟨0, .data⟩, ⟨1, .data⟩], none⟩) rfl (fun K hK => ?_) AllReadyH.nil)
          go_simp
          refine (VP.out _ HY0.out).mono ?_
          rintro e x1 ⟨rfl, hb⟩
          have HX1 := Lib.hid (show Below (w6.heap.size + 1) W1 x1 from HX0.out.trans (hb.mono D0.out))
          have HY1 := Lib.hid (show Below w6.heap.size w6 x1 from HY0.out.trans (hb.mono HY0.out.size))
          have D1 := Lib.hid (show w6.heap.size + 1 ≤ x1.heap.size from Nat.le_trans D0.out hb.size)
          have S1 := SX.out _ HX1.out
          clear hb hHeld
          refine hK.out _ _ S1 (fun hHeld => ?_)
          clear hK K S1
          try simp only [Act.put, List.setIfInBounds_toArray, List.set_cons_zero, List.set_cons_succ]
          refine wpAnyH_ready (rs := [5]) (by kernel_rfl) (by simp) (AllReadyH.cons (o := ⟨some 62, .call { callee := Callee.value (.func 30), args := #[.tmp 60, .tmp 61], argTypes := #[38, 3] }, 4, "law.go:112", #[⟨3, .data⟩, ⟨4, .data⟩, ⟨2, .chain⟩], none⟩) rfl (fun K hK => ?_) AllReadyH.nil)
          go_simp
          refine (VR.out _ HY1.out).mono ?_
          rintro e x2 ⟨rfl, hb⟩
          have HX2 := Lib.hid (show Below (w6.heap.size + 1) W1 x2 from HX1.out.trans (hb.mono D1.out))
          have HY2 := Lib.hid (show Below w6.heap.size w6 x2 from HY1.out.trans (hb.mono HY1.out.size))
          have D2 := Lib.hid (show w6.heap.size + 1 ≤ x2.heap.size from Nat.le_trans D1.out hb.size)
          have S2 := SX.out _ HX2.out
          clear hb hHeld
          refine hK.out _ _ S2 (fun hHeld => ?_)
          clear hK K S2
          try simp only [Act.put, List.setIfInBounds_toArray, List.set_cons_zero, List.set_cons_succ]
          refine wpAnyH_take (i := 6) (oi := ⟨some 63, .binOp .neq 4 (.tmp 59) (.tmp 62) 4, 4, "law.go:112", #[⟨2, .data⟩, ⟨5, .data⟩], none⟩) (v := ?vn5k6) rfl (by kernel_rfl) (by kernel_rfl) (by kernel_rfl) (fun _ _ _ h => h) (Or.inl ⟨by kernel_rfl, ?yn5k6⟩) (by assumption) ?rn5k6
          case yn5k6 => intro w hSw; (try dsimp only at hSw); go_simp; try with_reducible rfl
          try simp only [Act.put, List.setIfInBounds_toArray, List.set_cons_zero, List.set_cons_succ]
          refine wpAnyH_done (by kernel_rfl) ?_ _
          clear hHeld
          clear VP VR
          go_upto_region 13 with fail
          have BWX := Lib.hid (BW6.out.trans (HY2.out.mono BW6.out.size))
          have OWX := Lib.hid (owns_over OW.out HY2.out)
          have B5X := Lib.hid (B56.out.trans (HY2.out.mono B56.out.size))
          obtain ⟨a0, a1, a2, a3, a4⟩ := LJ.out x2 BWX.out
          clear a3 a4
          go_wp2_with (at_builtin; refine wpList_append_rel (w0 := x2) rfl _ _ rfl w5.heap.size _ (turnK rs t k) r2 (by go_simp) OWX.out 1 (by go_simp) (by rw [turnK_length]; omega) B5X.out.size ?_; intro v' w' ho' hg'; have HO := Lib.hid ho'; have HG := Lib.hid (Below.grown (B5X.out.alloc B5X.out.size _) hg' (Nat.le_trans B5X.out.size (by simp)) (fun j e => (OWX.out.lt j e).1)); clear ho' hg')
          go_roundw
          case rel => exact ⟨k + 1, by omega, by go_num, by rw [TS.out]; exact HO.out, HG.out⟩
          case measure => simp [intOf]; omega
        · obtain rfl : k = rs.length := by omega
          obtain ⟨A', c', hu, hl4⟩ := rels_of_owns (by rw [turnK_length]; have := HM.out; omega) OW.out (fun r hr => by
            obtain ⟨i, hi, rfl⟩ := List.mem_iff_getElem.1 (turn_sub rs t rs.length r (Nat.le_refl _) hr)
            obtain ⟨b1, o1, eA, hb1, hf⟩ := HA.out.2 (by omega)
            have := (hf i hi).over hb1 BW6.out
            exact ⟨this.2.2.2.1, this.2.2.2.2⟩)
          rw [turnK_length] at hu
          subst hu
          have FOT := Lib.hid (FO.out w6 BW6.out A' c' hl4)
          have RL := Lib.hid hl4
          clear hl4 FO OW
          go_wp2_with fail
          refine FOT.out.mono ?_
          rintro e w7 ⟨hres, hbl⟩
          have B67 := Lib.hid hbl
          have B7 := Lib.hid (BW6.out.trans (hbl.mono BW6.out.size))
          clear hbl FOT
          rcases hres with ⟨hv, rfl⟩ | ⟨hv, hbad, rfl⟩ | ⟨hv, hok2, H2, g2, hs2, hH2, rfl, hg2, hout2⟩
          · clear hv
            go_wp2_with (first | (go_at_call 28; refine (alike_none _).mono ?_; rintro e y8 ⟨rfl, hb⟩; have B8 := Lib.hid (B7.out.trans (hb.mono B7.out.size)); clear hb) | (go_at_call 8; refine (AW.out _ B8.out).mono ?_; rintro e y9 ⟨rfl, hb⟩; have B9 := Lib.hid (B8.out.trans (hb.mono B8.out.size)); clear hb))
            go_ret
            exact ⟨rfl, B9.out⟩
          · exact absurd (((turn_valid rs t fs).symm.trans hv).symm.trans HV.out) (by decide)
          · exact absurd (((turn_valid rs t fs).symm.trans hv).symm.trans HV.out) (by decide)
    · exact absurd (HV.out.symm.trans hv) (by decide)
    · exact absurd (HV.out.symm.trans hv) (by decide)
  · have HV := Lib.hid hv
    have BAD := Lib.hid hbad
    clear hbad
    clear hv
    go_wp2_with fail
    refine (FD.out _ B3.out).mono ?_
    rintro e w4 ⟨hres, hbl⟩
    have B34 := Lib.hid hbl
    have B4 := Lib.hid (B3.out.trans (hbl.mono B3.out.size))
    clear hbl FD
    rcases hres with ⟨hv, rfl⟩ | ⟨hv, hbad, rfl⟩ | ⟨hv, hok, K, Ad, cd, rl, hds, hcls, rfl, hrl, hfl, hre⟩
    · exact absurd (hv.symm.trans HV.out) (by decide)
    · clear hv hbad
      go_wp2_with (go_at_call 28; refine (alike_none _).mono ?_; rintro e w5 ⟨rfl, hb⟩; have B45 := Lib.hid hb; have B5 := Lib.hid (B4.out.trans (hb.mono B4.out.size)); clear hb)
      go_loopw [13, 14, 15, 52] (fun v13 _ _ cnt wr => ∃ k : Nat, k ≤ rs.length ∧ cnt = .int .i64 k ∧ wr.ownsRow w5.heap.size 38 3 v13 (turnK rs t k).length (flatR (turnK rs t k)) ∧ Below w5.heap.size w5 wr) (fun _ _ _ i _ => rs.length - (intOf i).toNat)
      case atStart => exact ⟨0, Nat.zero_le _, rfl, World.ownsRow_nil _ _ _ _, Below.refl _ _⟩
      case round =>
        obtain ⟨k, hk, rfl, hown, hbw⟩ := hrel
        obtain ⟨w6, rfl⟩ : ∃ x, x = wr := ⟨_, rfl⟩
        have OW := Lib.hid hown
        have B56 := Lib.hid hbw
        have BW6 := Lib.hid (B5.out.trans (hbw.mono B5.out.size))
        clear hown hbw
        by_cases hlt : k < rs.length
        · obtain ⟨b1, o1, eA, hb1, hf⟩ := HA.out.2 (by omega)
          have hlt2 : turnI rs.length t k < rs.length := turnI_lt (by omega)
          have TS := Lib.hid (turnK_succ rs t k (by omega))
          have TI := Lib.hid (show turnI rs.length t k = (rs.length - 1 - k + t) % rs.length from rfl)
          have LI := Lib.hid ((hf k hlt).over hb1 BW6.out)
          have LJ := Lib.hid (fun w1 (h : Below w.heap.size w w1) => (hf _ hlt2).over hb1 h)
          have EA := Lib.hid eA
          clear hf hb1 eA
          generalize rs[turnI rs.length t k] = r2 at *
          simp only [turnI] at LJ
          generalize rs[k] = r at *
          obtain rfl := EA.out
          obtain ⟨a0, a1, a2, a3, a4⟩ := LI.out
          have VP := Lib.hid (fun w1 (h : Below w6.heap.size w6 w1) => ValidRel_p_any r.k r.d a3 r.vs r.N n r.A r.c w1 (a4.over h))
          have VR := Lib.hid (fun w1 (h : Below w6.heap.size w6 w1) => ValidRel_r_any r.k r.d a3 r.vs r.N n r.A r.c w1 (a4.over h))
          generalize relB r.d r.vs n = rb at *
          have z1 : (k : Int) < (rs.length : Int) := by omega
          have z2 : (0 : Int) ≤ (k : Int) := by omega
          have z3 : rs.length ≤ 110 := HM.out
          have z4 : t ≤ 255 := HTT.out
          have z5 : (0 : Int) ≤ ((rs.length : Int) - 1 - k + t) % rs.length := Int.emod_nonneg _ (by omega)
          have z6 : ((rs.length : Int) - 1 - k + t) % rs.length < (rs.length : Int) := Int.emod_lt_of_pos _ (by omega)
          clear TI hlt2
          clear a3 a4 LI
          go_upto_region 11 with fail
          clear a0 a1 a2
          have BX := Lib.hid (show Below w6.heap.size w6 (w6.alloc (.cells #[.string r.k, .slice r.A r.vs.length r.c, .int .i64 r.N] 38)) from (Below.refl _ w6).alloc (Nat.le_refl _) _)
          have hx0 := heap_alloc_new w6 (.cells #[.string r.k, .slice r.A r.vs.length r.c, .int .i64 r.N] 38)
          have SZ := Lib.hid (show (w6.alloc (.cells #[.string r.k, .slice r.A r.vs.length r.c, .int .i64 r.N] 38)).heap.size = w6.heap.size + 1 from by simp)
          generalize (w6.alloc (.cells #[.string r.k, .slice r.A r.vs.length r.c, .int .i64 r.N] 38)) = W1 at *
          have SX := Lib.hid (show ∀ W, Below (w6.heap.size + 1) W1 W → (fun (wx : World) => wx.cell? ⟨w6.heap.size, 0, none⟩ = some (.string r.k) ∧ wx.cell? ⟨w6.heap.size, 1, none⟩ = some (.slice r.A r.vs.length r.c) ∧ wx.cell? ⟨w6.heap.size, 2, none⟩ = some (.int .i64 r.N)) W from fun W h => by
            have hh := (h.block w6.heap.size (by omega)).trans hx0
            refine ⟨?_, ?_, ?_⟩ <;> (simp only [World.cell?, hh]; rfl))
          have HX0 := Lib.hid (show Below (w6.heap.size + 1) W1 W1.drew from (Below.refl _ W1).drew)
          have HY0 := Lib.hid (show Below w6.heap.size w6 W1.drew from BX.out.drew)
          have S0 := SX.out _ HX0.out
          have D0 := Lib.hid (show w6.heap.size + 1 ≤ W1.drew.heap.size from by show _ ≤ W1.heap.size; have := SZ.out; omega)
          refine wp_region_held_drew (S := fun (wx : World) => wx.cell? ⟨w6.heap.size, 0, none⟩ = some (.string r.k) ∧ wx.cell? ⟨w6.heap.size, 1, none⟩ = some (.slice r.A r.vs.length r.c) ∧ wx.cell? ⟨w6.heap.size, 2, none⟩ = some (.int .i64 r.N)) (by kernel_rfl) S0 (fun hHeld => ?_)
          clear S0 hx0
          generalize W1.drew = V at *
          refine wpAnyH_take (i := 0) (oi := ⟨some 57, .load 38 (.tmp 15), 38, "law.go:112", #[], none⟩) (v := ?vn6k0) rfl (by kernel_rfl) (by kernel_rfl) (by kernel_rfl) (fun _ _ _ h => h) (Or.inl ⟨by kernel_rfl, ?yn6k0⟩) (by assumption) ?rn6k0
          case yn6k0 => intro w hSw; (try dsimp only at hSw); go_simp; try with_reducible rfl
          try simp only [Act.put, List.setIfInBounds_toArray, List.set_cons_zero, List.set_cons_succ]
          refine wpAnyH_take (i := 1) (oi := ⟨some 58, .move (.tmp 3), 3, "law.go:112", #[], none⟩) (v := ?vn7k1) rfl (by kernel_rfl) (by kernel_rfl) (by kernel_rfl) (fun _ _ _ h => h) (Or.inl ⟨by kernel_rfl, ?yn7k1⟩) (by assumption) ?rn7k1
          case yn7k1 => intro w hSw; (try dsimp only at hSw); go_simp; try with_reducible rfl
          try simp only [Act.put, List.setIfInBounds_toArray, List.set_cons_zero, List.set_cons_succ]
          refine wpAnyH_take (i := 3) (oi := ⟨some 60, .load 38 (.tmp 15), 38, "law.go:112", #[], none⟩) (v := ?vn8k3) rfl (by kernel_rfl) (by kernel_rfl) (by kernel_rfl) (fun _ _ _ h => h) (Or.inl ⟨by kernel_rfl, ?yn8k3⟩) (by assumption) ?rn8k3
          case yn8k3 => intro w hSw; (try dsimp only at hSw); go_simp; try with_reducible rfl
          try simp only [Act.put, List.setIfInBounds_toArray, List.set_cons_zero, List.set_cons_succ]
          refine wpAnyH_take (i := 4) (oi := ⟨some 61, .move (.tmp 3), 3, "law.go:112", #[], none⟩) (v := ?vn9k4) rfl (by kernel_rfl) (by kernel_rfl) (by kernel_rfl) (fun _ _ _ h => h) (Or.inl ⟨by kernel_rfl, ?yn9k4⟩) (by assumption) ?rn9k4
          case yn9k4 => intro w hSw; (try dsimp only at hSw); go_simp; try with_reducible rfl
          try simp only [Act.put, List.setIfInBounds_toArray, List.set_cons_zero, List.set_cons_succ]
          refine wpAnyH_ready (rs := [2]) (by kernel_rfl) (by simp) (AllReadyH.cons (o := ⟨some 59, .call { callee := Callee.value (.func 29), args := #[.tmp 57, .tmp 58], argTypes := #[38, 3] }, 4, "law.go:112", #[⟨0, .data⟩, ⟨1, .data⟩], none⟩) rfl (fun K hK => ?_) AllReadyH.nil)
          go_simp
          refine (VP.out _ HY0.out).mono ?_
          rintro e x1 ⟨rfl, hb⟩
          have HX1 := Lib.hid (show Below (w6.heap.size + 1) W1 x1 from HX0.out.trans (hb.mono D0.out))
          have HY1 := Lib.hid (show Below w6.heap.size w6 x1 from HY0.out.trans (hb.mono HY0.out.size))
          have D1 := Lib.hid (show w6.heap.size + 1 ≤ x1.heap.size from Nat.le_trans D0.out hb.size)
          have S1 := SX.out _ HX1.out
          clear hb hHeld
          refine hK.out _ _ S1 (fun hHeld => ?_)
          clear hK K S1
          try simp only [Act.put, List.setIfInBounds_toArray, List.set_cons_zero, List.set_cons_succ]
          refine wpAnyH_ready (rs := [5]) (by kernel_rfl) (by simp) (AllReadyH.cons (o := ⟨some 62, .call { callee := Callee.value (.func 30), args := #[.tmp 60, .tmp 61], argTypes := #[38, 3] }, 4, "law.go:112", #[⟨3, .data⟩, ⟨4, .data⟩, ⟨2, .chain⟩], none⟩) rfl (fun K hK => ?_) AllReadyH.nil)
          go_simp
          refine (VR.out _ HY1.out).mono ?_
          rintro e x2 ⟨rfl, hb⟩
          have HX2 := Lib.hid (show Below (w6.heap.size + 1) W1 x2 from HX1.out.trans (hb.mono D1.out))
          have HY2 := Lib.hid (show Below w6.heap.size w6 x2 from HY1.out.trans (hb.mono HY1.out.size))
          have D2 := Lib.hid (show w6.heap.size + 1 ≤ x2.heap.size from Nat.le_trans D1.out hb.size)
          have S2 := SX.out _ HX2.out
          clear hb hHeld
          refine hK.out _ _ S2 (fun hHeld => ?_)
          clear hK K S2
          try simp only [Act.put, List.setIfInBounds_toArray, List.set_cons_zero, List.set_cons_succ]
          refine wpAnyH_take (i := 6) (oi := ⟨some 63, .binOp .neq 4 (.tmp 59) (.tmp 62) 4, 4, "law.go:112", #[⟨2, .data⟩, ⟨5, .data⟩], none⟩) (v := ?vn10k6) rfl (by kernel_rfl) (by kernel_rfl) (by kernel_rfl) (fun _ _ _ h => h) (Or.inl ⟨by kernel_rfl, ?yn10k6⟩) (by assumption) ?rn10k6
          case yn10k6 => intro w hSw; (try dsimp only at hSw); go_simp; try with_reducible rfl
          try simp only [Act.put, List.setIfInBounds_toArray, List.set_cons_zero, List.set_cons_succ]
          refine wpAnyH_done (by kernel_rfl) ?_ _
          clear hHeld
          clear VP VR
          go_upto_region 13 with fail
          have BWX := Lib.hid (BW6.out.trans (HY2.out.mono BW6.out.size))
          have OWX := Lib.hid (owns_over OW.out HY2.out)
          have B5X := Lib.hid (B56.out.trans (HY2.out.mono B56.out.size))
          obtain ⟨a0, a1, a2, a3, a4⟩ := LJ.out x2 BWX.out
          clear a3 a4
          go_wp2_with (at_builtin; refine wpList_append_rel (w0 := x2) rfl _ _ rfl w5.heap.size _ (turnK rs t k) r2 (by go_simp) OWX.out 1 (by go_simp) (by rw [turnK_length]; omega) B5X.out.size ?_; intro v' w' ho' hg'; have HO := Lib.hid ho'; have HG := Lib.hid (Below.grown (B5X.out.alloc B5X.out.size _) hg' (Nat.le_trans B5X.out.size (by simp)) (fun j e => (OWX.out.lt j e).1)); clear ho' hg')
          go_roundw
          case rel => exact ⟨k + 1, by omega, by go_num, by rw [TS.out]; exact HO.out, HG.out⟩
          case measure => simp [intOf]; omega
        · obtain rfl : k = rs.length := by omega
          obtain ⟨A', c', hu, hl4⟩ := rels_of_owns (by rw [turnK_length]; have := HM.out; omega) OW.out (fun r hr => by
            obtain ⟨i, hi, rfl⟩ := List.mem_iff_getElem.1 (turn_sub rs t rs.length r (Nat.le_refl _) hr)
            obtain ⟨b1, o1, eA, hb1, hf⟩ := HA.out.2 (by omega)
            have := (hf i hi).over hb1 BW6.out
            exact ⟨this.2.2.2.1, this.2.2.2.2⟩)
          rw [turnK_length] at hu
          subst hu
          have FOT := Lib.hid (FO.out w6 BW6.out A' c' hl4)
          have RL := Lib.hid hl4
          clear hl4 FO OW
          go_wp2_with fail
          refine FOT.out.mono ?_
          rintro e w7 ⟨hres, hbl⟩
          have B67 := Lib.hid hbl
          have B7 := Lib.hid (BW6.out.trans (hbl.mono BW6.out.size))
          clear hbl FOT
          rcases hres with ⟨hv, rfl⟩ | ⟨hv, hbad, rfl⟩ | ⟨hv, hok2, H2, g2, hs2, hH2, rfl, hg2, hout2⟩
          · exact absurd (((turn_valid rs t fs).symm.trans hv).symm.trans HV.out) (by decide)
          · clear hv hbad
            go_wp2_with (first | (go_at_call 28; refine (alike_none _).mono ?_; rintro e y8 ⟨rfl, hb⟩; have B8 := Lib.hid (B7.out.trans (hb.mono B7.out.size)); clear hb) | (go_at_call 8; refine (AW.out _ B8.out).mono ?_; rintro e y9 ⟨rfl, hb⟩; have B9 := Lib.hid (B8.out.trans (hb.mono B8.out.size)); clear hb))
            go_ret
            exact ⟨rfl, B9.out⟩
          · refine absurd hok2 ?_
            rcases BAD.out with h | ⟨H1, h⟩
            · rw [h]; decide
            · exact absurd (turn_same HV.out hok2 h hs2).1 (by decide)
    · exact absurd (not_doc hv hok BAD.out hds hcls) id
  · have HV := Lib.hid hv
    obtain ⟨gs, hgl, hgf, hge⟩ := fams_read0 (by have := HN.out; omega) hH hout
    have OK := Lib.hid hok
    have HS := Lib.hid hs
    have HH := Lib.hid hH
    have GS := Lib.hid hgf
    have GO := Lib.hid (show OutOf gs fs.length H from ⟨hgl, hge⟩)
    clear hok hs hH hg hout hgl hgf hge
    clear hv
    go_wp2_with fail
    refine (FD.out _ B3.out).mono ?_
    rintro e w4 ⟨hres, hbl⟩
    have B34 := Lib.hid hbl
    have B4 := Lib.hid (B3.out.trans (hbl.mono B3.out.size))
    clear hbl FD
    rcases hres with ⟨hv, rfl⟩ | ⟨hv, hbad, rfl⟩ | ⟨hv, hok, K, Ad, cd, rl, hds, hcls, rfl, hrl, hfl, hre⟩
    · exact absurd (hv.symm.trans HV.out) (by decide)
    · exact absurd (not_prog HV.out OK.out HS.out HH.out hbad) id
    · have AK := Lib.hid (fun w1 (h : Below w4.heap.size w4 w1) => show Calls Tryd.prog 28 #[.slice (some ⟨g, 0, none⟩) fs.length fs.length, .slice Ad fs.length cd] w1 fun e w' => e = .returned (.bool true) ∧ Below w1.heap.size w1 w' from by
        have e := both_ok HV.out OK.out HS.out HH.out hds hcls
        have := alike_true gs rl (some ⟨g, 0, none⟩) Ad fs.length cd w1 ((GS.out.over B34.out).over h) (hfl.over h) (by rw [hrl, GO.out.1]) (fun f hf => List.all_eq_true.1 (GO.out.ok HH.out) f hf) (fun i h1 h2 => by
          obtain ⟨q1, q2, q3, q4⟩ := GO.out.2 i h1
          obtain ⟨r1, r2, r3, r4⟩ := hre i h2
          rw [q1, q2, q3, q4, r1, r2, r3, r4, e]
          exact ⟨rfl, rfl, rfl, rfl⟩)
        rwa [GO.out.1] at this)
      clear hv hok hds hcls hrl hfl hre
      go_wp2_with (go_at_call 28; refine (AK.out _ (Below.refl _ _)).mono ?_; rintro e w5 ⟨rfl, hb⟩; have B45 := Lib.hid hb; have B5 := Lib.hid (B4.out.trans (hb.mono B4.out.size)); clear hb)
      go_loopw [13, 14, 15, 52] (fun v13 _ _ cnt wr => ∃ k : Nat, k ≤ rs.length ∧ cnt = .int .i64 k ∧ wr.ownsRow w5.heap.size 38 3 v13 (turnK rs t k).length (flatR (turnK rs t k)) ∧ Below w5.heap.size w5 wr) (fun _ _ _ i _ => rs.length - (intOf i).toNat)
      case atStart => exact ⟨0, Nat.zero_le _, rfl, World.ownsRow_nil _ _ _ _, Below.refl _ _⟩
      case round =>
        obtain ⟨k, hk, rfl, hown, hbw⟩ := hrel
        obtain ⟨w6, rfl⟩ : ∃ x, x = wr := ⟨_, rfl⟩
        have OW := Lib.hid hown
        have B56 := Lib.hid hbw
        have BW6 := Lib.hid (B5.out.trans (hbw.mono B5.out.size))
        clear hown hbw
        by_cases hlt : k < rs.length
        · obtain ⟨b1, o1, eA, hb1, hf⟩ := HA.out.2 (by omega)
          have hlt2 : turnI rs.length t k < rs.length := turnI_lt (by omega)
          have TS := Lib.hid (turnK_succ rs t k (by omega))
          have TI := Lib.hid (show turnI rs.length t k = (rs.length - 1 - k + t) % rs.length from rfl)
          have LI := Lib.hid ((hf k hlt).over hb1 BW6.out)
          have LJ := Lib.hid (fun w1 (h : Below w.heap.size w w1) => (hf _ hlt2).over hb1 h)
          have EA := Lib.hid eA
          clear hf hb1 eA
          generalize rs[turnI rs.length t k] = r2 at *
          simp only [turnI] at LJ
          generalize rs[k] = r at *
          obtain rfl := EA.out
          obtain ⟨a0, a1, a2, a3, a4⟩ := LI.out
          have VP := Lib.hid (fun w1 (h : Below w6.heap.size w6 w1) => ValidRel_p_any r.k r.d a3 r.vs r.N n r.A r.c w1 (a4.over h))
          have VR := Lib.hid (fun w1 (h : Below w6.heap.size w6 w1) => ValidRel_r_any r.k r.d a3 r.vs r.N n r.A r.c w1 (a4.over h))
          generalize relB r.d r.vs n = rb at *
          have z1 : (k : Int) < (rs.length : Int) := by omega
          have z2 : (0 : Int) ≤ (k : Int) := by omega
          have z3 : rs.length ≤ 110 := HM.out
          have z4 : t ≤ 255 := HTT.out
          have z5 : (0 : Int) ≤ ((rs.length : Int) - 1 - k + t) % rs.length := Int.emod_nonneg _ (by omega)
          have z6 : ((rs.length : Int) - 1 - k + t) % rs.length < (rs.length : Int) := Int.emod_lt_of_pos _ (by omega)
          clear TI hlt2
          clear a3 a4 LI
          go_upto_region 11 with fail
          clear a0 a1 a2
          have BX := Lib.hid (show Below w6.heap.size w6 (w6.alloc (.cells #[.string r.k, .slice r.A r.vs.length r.c, .int .i64 r.N] 38)) from (Below.refl _ w6).alloc (Nat.le_refl _) _)
          have hx0 := heap_alloc_new w6 (.cells #[.string r.k, .slice r.A r.vs.length r.c, .int .i64 r.N] 38)
          have SZ := Lib.hid (show (w6.alloc (.cells #[.string r.k, .slice r.A r.vs.length r.c, .int .i64 r.N] 38)).heap.size = w6.heap.size + 1 from by simp)
          generalize (w6.alloc (.cells #[.string r.k, .slice r.A r.vs.length r.c, .int .i64 r.N] 38)) = W1 at *
          have SX := Lib.hid (show ∀ W, Below (w6.heap.size + 1) W1 W → (fun (wx : World) => wx.cell? ⟨w6.heap.size, 0, none⟩ = some (.string r.k) ∧ wx.cell? ⟨w6.heap.size, 1, none⟩ = some (.slice r.A r.vs.length r.c) ∧ wx.cell? ⟨w6.heap.size, 2, none⟩ = some (.int .i64 r.N)) W from fun W h => by
            have hh := (h.block w6.heap.size (by omega)).trans hx0
            refine ⟨?_, ?_, ?_⟩ <;> (simp only [World.cell?, hh]; rfl))
          have HX0 := Lib.hid (show Below (w6.heap.size + 1) W1 W1.drew from (Below.refl _ W1).drew)
          have HY0 := Lib.hid (show Below w6.heap.size w6 W1.drew from BX.out.drew)
          have S0 := SX.out _ HX0.out
          have D0 := Lib.hid (show w6.heap.size + 1 ≤ W1.drew.heap.size from by show _ ≤ W1.heap.size; have := SZ.out; omega)
          refine wp_region_held_drew (S := fun (wx : World) => wx.cell? ⟨w6.heap.size, 0, none⟩ = some (.string r.k) ∧ wx.cell? ⟨w6.heap.size, 1, none⟩ = some (.slice r.A r.vs.length r.c) ∧ wx.cell? ⟨w6.heap.size, 2, none⟩ = some (.int .i64 r.N)) (by kernel_rfl) S0 (fun hHeld => ?_)
          clear S0 hx0
          generalize W1.drew = V at *
          refine wpAnyH_take (i := 0) (oi := ⟨some 57, .load 38 (.tmp 15), 38, "law.go:112", #[], none⟩) (v := ?vn11k0) rfl (by kernel_rfl) (by kernel_rfl) (by kernel_rfl) (fun _ _ _ h => h) (Or.inl ⟨by kernel_rfl, ?yn11k0⟩) (by assumption) ?rn11k0
          case yn11k0 => intro w hSw; (try dsimp only at hSw); go_simp; try with_reducible rfl
          try simp only [Act.put, List.setIfInBounds_toArray, List.set_cons_zero, List.set_cons_succ]
          refine wpAnyH_take (i := 1) (oi := ⟨some 58, .move (.tmp 3), 3, "law.go:112", #[], none⟩) (v := ?vn12k1) rfl (by kernel_rfl) (by kernel_rfl) (by kernel_rfl) (fun _ _ _ h => h) (Or.inl ⟨by kernel_rfl, ?yn12k1⟩) (by assumption) ?rn12k1
          case yn12k1 => intro w hSw; (try dsimp only at hSw); go_simp; try with_reducible rfl
          try simp only [Act.put, List.setIfInBounds_toArray, List.set_cons_zero, List.set_cons_succ]
          refine wpAnyH_take (i := 3) (oi := ⟨some 60, .load 38 (.tmp 15), 38, "law.go:112", #[], none⟩) (v := ?vn13k3) rfl (by kernel_rfl) (by kernel_rfl) (by kernel_rfl) (fun _ _ _ h => h) (Or.inl ⟨by kernel_rfl, ?yn13k3⟩) (by assumption) ?rn13k3
          case yn13k3 => intro w hSw; (try dsimp only at hSw); go_simp; try with_reducible rfl
          try simp only [Act.put, List.setIfInBounds_toArray, List.set_cons_zero, List.set_cons_succ]
          refine wpAnyH_take (i := 4) (oi := ⟨some 61, .move (.tmp 3), 3, "law.go:112", #[], none⟩) (v := ?vn14k4) rfl (by kernel_rfl) (by kernel_rfl) (by kernel_rfl) (fun _ _ _ h => h) (Or.inl ⟨by kernel_rfl, ?yn14k4⟩) (by assumption) ?rn14k4
          case yn14k4 => intro w hSw; (try dsimp only at hSw); go_simp; try with_reducible rfl
          try simp only [Act.put, List.setIfInBounds_toArray, List.set_cons_zero, List.set_cons_succ]
          refine wpAnyH_ready (rs := [2]) (by kernel_rfl) (by simp) (AllReadyH.cons (o := ⟨some 59, .call { callee := Callee.value (.func 29), args := #[.tmp 57, .tmp 58], argTypes := #[38, 3] }, 4, "law.go:112", #[⟨0, .data⟩, ⟨1, .data⟩], none⟩) rfl (fun K hK => ?_) AllReadyH.nil)
          go_simp
          refine (VP.out _ HY0.out).mono ?_
          rintro e x1 ⟨rfl, hb⟩
          have HX1 := Lib.hid (show Below (w6.heap.size + 1) W1 x1 from HX0.out.trans (hb.mono D0.out))
          have HY1 := Lib.hid (show Below w6.heap.size w6 x1 from HY0.out.trans (hb.mono HY0.out.size))
          have D1 := Lib.hid (show w6.heap.size + 1 ≤ x1.heap.size from Nat.le_trans D0.out hb.size)
          have S1 := SX.out _ HX1.out
          clear hb hHeld
          refine hK.out _ _ S1 (fun hHeld => ?_)
          clear hK K S1
          try simp only [Act.put, List.setIfInBounds_toArray, List.set_cons_zero, List.set_cons_succ]
          refine wpAnyH_ready (rs := [5]) (by kernel_rfl) (by simp) (AllReadyH.cons (o := ⟨some 62, .call { callee := Callee.value (.func 30), args := #[.tmp 60, .tmp 61], argTypes := #[38, 3] }, 4, "law.go:112", #[⟨3, .data⟩, ⟨4, .data⟩, ⟨2, .chain⟩], none⟩) rfl (fun K hK => ?_) AllReadyH.nil)
          go_simp
          refine (VR.out _ HY1.out).mono ?_
          rintro e x2 ⟨rfl, hb⟩
          have HX2 := Lib.hid (show Below (w6.heap.size + 1) W1 x2 from HX1.out.trans (hb.mono D1.out))
          have HY2 := Lib.hid (show Below w6.heap.size w6 x2 from HY1.out.trans (hb.mono HY1.out.size))
          have D2 := Lib.hid (show w6.heap.size + 1 ≤ x2.heap.size from Nat.le_trans D1.out hb.size)
          have S2 := SX.out _ HX2.out
          clear hb hHeld
          refine hK.out _ _ S2 (fun hHeld => ?_)
          clear hK K S2
          try simp only [Act.put, List.setIfInBounds_toArray, List.set_cons_zero, List.set_cons_succ]
          refine wpAnyH_take (i := 6) (oi := ⟨some 63, .binOp .neq 4 (.tmp 59) (.tmp 62) 4, 4, "law.go:112", #[⟨2, .data⟩, ⟨5, .data⟩], none⟩) (v := ?vn15k6) rfl (by kernel_rfl) (by kernel_rfl) (by kernel_rfl) (fun _ _ _ h => h) (Or.inl ⟨by kernel_rfl, ?yn15k6⟩) (by assumption) ?rn15k6
          case yn15k6 => intro w hSw; (try dsimp only at hSw); go_simp; try with_reducible rfl
          try simp only [Act.put, List.setIfInBounds_toArray, List.set_cons_zero, List.set_cons_succ]
          refine wpAnyH_done (by kernel_rfl) ?_ _
          clear hHeld
          clear VP VR
          go_upto_region 13 with fail
          have BWX := Lib.hid (BW6.out.trans (HY2.out.mono BW6.out.size))
          have OWX := Lib.hid (owns_over OW.out HY2.out)
          have B5X := Lib.hid (B56.out.trans (HY2.out.mono B56.out.size))
          obtain ⟨a0, a1, a2, a3, a4⟩ := LJ.out x2 BWX.out
          clear a3 a4
          go_wp2_with (at_builtin; refine wpList_append_rel (w0 := x2) rfl _ _ rfl w5.heap.size _ (turnK rs t k) r2 (by go_simp) OWX.out 1 (by go_simp) (by rw [turnK_length]; omega) B5X.out.size ?_; intro v' w' ho' hg'; have HO := Lib.hid ho'; have HG := Lib.hid (Below.grown (B5X.out.alloc B5X.out.size _) hg' (Nat.le_trans B5X.out.size (by simp)) (fun j e => (OWX.out.lt j e).1)); clear ho' hg')
          go_roundw
          case rel => exact ⟨k + 1, by omega, by go_num, by rw [TS.out]; exact HO.out, HG.out⟩
          case measure => simp [intOf]; omega
        · obtain rfl : k = rs.length := by omega
          obtain ⟨A', c', hu, hl4⟩ := rels_of_owns (by rw [turnK_length]; have := HM.out; omega) OW.out (fun r hr => by
            obtain ⟨i, hi, rfl⟩ := List.mem_iff_getElem.1 (turn_sub rs t rs.length r (Nat.le_refl _) hr)
            obtain ⟨b1, o1, eA, hb1, hf⟩ := HA.out.2 (by omega)
            have := (hf i hi).over hb1 BW6.out
            exact ⟨this.2.2.2.1, this.2.2.2.2⟩)
          rw [turnK_length] at hu
          subst hu
          have FOT := Lib.hid (FO.out w6 BW6.out A' c' hl4)
          have RL := Lib.hid hl4
          clear hl4 FO OW
          go_wp2_with fail
          refine FOT.out.mono ?_
          rintro e w7 ⟨hres, hbl⟩
          have B67 := Lib.hid hbl
          have B7 := Lib.hid (BW6.out.trans (hbl.mono BW6.out.size))
          clear hbl FOT
          rcases hres with ⟨hv, rfl⟩ | ⟨hv, hbad, rfl⟩ | ⟨hv, hok2, H2, g2, hs2, hH2, rfl, hg2, hout2⟩
          · exact absurd (((turn_valid rs t fs).symm.trans hv).symm.trans HV.out) (by decide)
          · refine absurd OK.out ?_
            rcases hbad with h | ⟨H1, h⟩
            · rw [h]; decide
            · exact absurd (turn_same HV.out OK.out HS.out h).1 (by decide)
          · obtain rfl := (turn_same HV.out OK.out HS.out hs2).2 rfl
            obtain ⟨cs, hcl, hcf, hce⟩ := fams_read0 (by have := HN.out; omega) hH2 hout2
            have CO : OutOf cs fs.length H := ⟨hcl, hce⟩
            have GS7 := Lib.hid (((((GS.out.over B34.out).over B45.out).over B56.out).over B67.out))
            have GSX : ∀ {w1 : World}, Below w7.heap.size w7 w1 → FamsLie w1 (some ⟨g, 0, none⟩) gs := fun h => GS7.out.over h
            have AK2 := Lib.hid (fun w1 (h : Below w7.heap.size w7 w1) => show Calls Tryd.prog 28 #[.slice (some ⟨g, 0, none⟩) fs.length fs.length, .slice (some ⟨g2, 0, none⟩) fs.length fs.length] w1 fun e w' => e = .returned (.bool true) ∧ Below w1.heap.size w1 w' from by
              have := alike_true gs cs (some ⟨g, 0, none⟩) (some ⟨g2, 0, none⟩) fs.length fs.length w1 (GSX h) ((hcf).over h) (by rw [CO.1, GO.out.1]) (fun f hf => List.all_eq_true.1 (GO.out.ok HH.out) f hf) (fun i h1 h2 => by
                obtain ⟨q1, q2, q3, q4⟩ := GO.out.2 i h1
                obtain ⟨r1, r2, r3, r4⟩ := CO.2 i h2
                rw [q1, q2, q3, q4, r1, r2, r3, r4]
                exact ⟨rfl, rfl, rfl, rfl⟩)
              rwa [GO.out.1] at this)

            have AG := Lib.hid (fix_again HV.out (turn_mem rs t) (turnK_length _ _ _) OK.out HS.out HH.out GO.out)
            clear hv hok2 hs2 hH2 hg2 hout2 hcl hcf hce CO GSX
            go_wp2_with (go_at_call 28; refine (AK2.out _ (Below.refl _ _)).mono ?_; rintro e w8 ⟨rfl, hb⟩; have B78 := Lib.hid hb; have B8 := Lib.hid (B7.out.trans (hb.mono B7.out.size)); clear hb)
            refine (FG.out w8 B8.out A' c' ((RL.out.over B67.out).over B78.out) gs (some ⟨g, 0, none⟩) fs.length fs.length GO.out.1 (GS7.out.over B78.out)).mono ?_
            rintro e w9 ⟨hres, hbl⟩
            have B9 := Lib.hid (B8.out.trans (hbl.mono B8.out.size))
            have B89 := Lib.hid hbl
            clear hbl FG AK2
            rcases hres with ⟨hv, rfl⟩ | ⟨hv, hbad, rfl⟩ | ⟨hv, hok3, H3, g3, hs3, hH3, rfl, hg3, hout3⟩
            · exact absurd (AG.out.1.symm.trans hv) (by decide)
            · rcases hbad with h | ⟨H1, h⟩
              · exact absurd (AG.out.2.1.symm.trans h) (by decide)
              · exact absurd (AG.out.2.2 false H1 h).1 (by decide)
            · obtain rfl := (AG.out.2.2 true H3 hs3).2 hH3
              rw [GO.out.1] at hout3 ⊢
              obtain ⟨ds, hdl, hdf, hde⟩ := fams_read0 (by have := HN.out; omega) hH3 hout3
              have DO : OutOf ds fs.length H3 := ⟨hdl, hde⟩
              have GSX : ∀ {w1 : World}, Below w9.heap.size w9 w1 → FamsLie w1 (some ⟨g, 0, none⟩) gs := fun h => ((GS7.out.over B78.out).over B89.out).over h
              have AK2 := Lib.hid (fun w1 (h : Below w9.heap.size w9 w1) => show Calls Tryd.prog 28 #[.slice (some ⟨g, 0, none⟩) fs.length fs.length, .slice (some ⟨g3, 0, none⟩) fs.length fs.length] w1 fun e w' => e = .returned (.bool true) ∧ Below w1.heap.size w1 w' from by
                have := alike_true gs ds (some ⟨g, 0, none⟩) (some ⟨g3, 0, none⟩) fs.length fs.length w1 (GSX h) ((hdf).over h) (by rw [DO.1, GO.out.1]) (fun f hf => List.all_eq_true.1 (GO.out.ok HH.out) f hf) (fun i h1 h2 => by
                  obtain ⟨q1, q2, q3, q4⟩ := GO.out.2 i h1
                  obtain ⟨r1, r2, r3, r4⟩ := DO.2 i h2
                  rw [q1, q2, q3, q4, r1, r2, r3, r4]
                  exact ⟨rfl, rfl, rfl, rfl⟩)
                rwa [GO.out.1] at this)

              clear hv hok3 hs3 hH3 hg3 hout3 hdl hdf hde DO GSX
              go_wp2_with (first | (go_at_call 28; refine (AK2.out _ (Below.refl _ _)).mono ?_; rintro e w10 ⟨rfl, hb⟩; have B10 := Lib.hid (B9.out.trans (hb.mono B9.out.size)); clear hb) | (go_at_call 8; refine (AW.out _ B10.out).mono ?_; rintro e y9 ⟨rfl, hb⟩; have B11 := Lib.hid (B10.out.trans (hb.mono B10.out.size)); clear hb))
              go_ret
              exact ⟨rfl, B11.out⟩
end Go.Proofs.YthakhdbakmlooaaDoor
