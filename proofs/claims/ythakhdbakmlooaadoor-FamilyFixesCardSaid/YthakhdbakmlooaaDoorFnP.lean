/-
  What follows of relations over families: the document's.
-/
import Derived.Test.YthakhdbakmlooaaDoorFnO
import Derived.Test.YthakhdbakmlooaaDoorFzD
import Derived.Test.YthakhdbakmlooaaDoorKbP
import Derived.Test.YthakhdbakmlooaaDoorKbG
namespace Go.Proofs.YthakhdbakmlooaaDoor
set_option linter.unusedSimpArgs false
set_option linter.unusedVariables false
open Go Go.RowKit Go.Shelf Go.Ev

/-- what the document's Fix answers -/
def FixDR (rs : List RelV) (fs : List FamV) (w : World) (e : Ending) (w' : World) : Prop :=
  ((validP rs fs = false ∧ e = .returned (.tuple #[.slice none 0 0, .int .i64 2])) ∨
   (validP rs fs = true ∧ (okAll fs = false ∨ ∀ H, Cls rs H → ¬ WF (firstF fs) H) ∧ e = .returned (.tuple #[.slice none 0 0, .int .i64 60])) ∨
   (validP rs fs = true ∧ okAll fs = true ∧ ∃ (K : Nat → BdV) (A : Option Addr) (cap : Nat) (rl : List FamV), DS rs (firstF fs) K ∧ Cls rs K ∧ e = .returned (.tuple #[.slice A fs.length cap, .int .i64 0]) ∧ rl.length = fs.length ∧ FamsLie w' A rl ∧
     ∀ i (h : i < rl.length), rl[i].lo = bi (K i).lo ∧ rl[i].hi = bi (K i).hi ∧ rl[i].mn = (K i).mn ∧ rl[i].mx = (K i).mx)) ∧ Below w.heap.size w w'
theorem nml_zero : Nml zB := ⟨by decide, rfl⟩
theorem nml_first {fs : List FamV} (h1 : fs.all FamV.ok = true) (h2 : okAll fs = true) (i : Nat) : Nml (firstF fs i) := by
  unfold firstF
  split
  · next f hf =>
    have hm := List.mem_of_getElem? hf
    have v := fam_parts (List.all_eq_true.1 h1 f hm)
    exact nml_norm _ (setN_lt v.1) (setN_lt v.2.1) (List.all_eq_true.1 h2 f hm)
  · exact nml_zero
/-- bounds compared, field by field -/
def eqB (b c : BdV) : Bool := decide ((b.lo : Int) = c.lo ∧ (b.hi : Int) = c.hi ∧ b.mn = c.mn ∧ b.mx = c.mx)
theorem eqB_iff {b c : BdV} : eqB b c = true ↔ b = c := by
  unfold eqB
  rw [decide_eq_true_eq, Int.natCast_inj, Int.natCast_inj]
  refine ⟨fun ⟨e1, e2, e3, e4⟩ => ?_, fun e => by rw [e]; exact ⟨rfl, rfl, rfl, rfl⟩⟩
  cases b; cases c
  simp only at e1 e2 e3 e4
  rw [e1, e2, e3, e4]
def sameU (K F : Nat → BdV) (k : Nat) : Bool := (List.range k).all fun j => eqB (normB (K j)) (F j)
theorem sameU_succ (K F : Nat → BdV) (k : Nat) : sameU K F (k + 1) = (sameU K F k && eqB (normB (K k)) (F k)) := by
  unfold sameU
  rw [List.range_succ, List.all_append]
  simp
theorem sameU_iff {K F : Nat → BdV} {n : Nat} : sameU K F n = true ↔ sameB (normU n K) F n := by
  unfold sameU sameB normU
  rw [List.all_eq_true]
  refine ⟨fun h i hi => ?_, fun h i hi => ?_⟩
  · rw [if_pos hi]
    exact eqB_iff.1 (h i (List.mem_range.2 hi))
  · have hi := List.mem_range.1 hi
    have := h i hi
    rw [if_pos hi] at this
    exact eqB_iff.2 this
/-- a family written whole -/
def setD (w : World) (g x : Nat) (b : BdV) (v : Bool) : World := ((((w.setCell ⟨g, x * 5, none⟩ (.int .u64 (b.lo : Int))).setCell ⟨g, x * 5 + 1, none⟩ (.int .u64 (b.hi : Int))).setCell ⟨g, x * 5 + 2, none⟩ (.int .i64 b.mn)).setCell ⟨g, x * 5 + 3, none⟩ (.int .i64 b.mx)).setCell ⟨g, x * 5 + 4, none⟩ (.bool v)
theorem DRow.setD {w : World} {g n : Nat} {F : Nat → BdV} {G : Nat → Bool} (h : DRow w g n F G) (x : Nat) (b : BdV) (v : Bool) : DRow (setD w g x b v) g n (upd F x b) (updG G x v) := by
  obtain ⟨M, C, hM, hr, hc⟩ := h
  refine ⟨M, _, hM, World.rowIs.set (World.rowIs.set (World.rowIs.set (World.rowIs.set (World.rowIs.set hr (x * 5) _) (x * 5 + 1) _) (x * 5 + 2) _) (x * 5 + 3) _) (x * 5 + 4) _, fun i hi => ?_⟩
  by_cases e4 : i = x * 5 + 4
  · rw [if_pos e4, e4, show (x * 5 + 4) / 5 = x by omega, show (x * 5 + 4) % 5 = 4 by omega, upd_same, updG_same]; rfl
  rw [if_neg e4]
  by_cases e3 : i = x * 5 + 3
  · rw [if_pos e3, e3, show (x * 5 + 3) / 5 = x by omega, show (x * 5 + 3) % 5 = 3 by omega, upd_same, updG_same]; rfl
  rw [if_neg e3]
  by_cases e2 : i = x * 5 + 2
  · rw [if_pos e2, e2, show (x * 5 + 2) / 5 = x by omega, show (x * 5 + 2) % 5 = 2 by omega, upd_same, updG_same]; rfl
  rw [if_neg e2]
  by_cases e1 : i = x * 5 + 1
  · rw [if_pos e1, e1, show (x * 5 + 1) / 5 = x by omega, show (x * 5 + 1) % 5 = 1 by omega, upd_same, updG_same]; rfl
  rw [if_neg e1]
  by_cases e0 : i = x * 5
  · rw [if_pos e0, e0, show (x * 5) / 5 = x by omega, show (x * 5) % 5 = 0 by omega, upd_same, updG_same]; rfl
  rw [if_neg e0, hc i hi]
  have hx : i / 5 ≠ x := by omega
  rw [upd_other _ _ hx, updG_other _ _ hx]
theorem Only.setD (w : World) (g x : Nat) (b : BdV) (v : Bool) : Only g w (setD w g x b v) := ((((Only.set _ _ _).trans (Only.set _ _ _)).trans (Only.set _ _ _)).trans (Only.set _ _ _)).trans (Only.set _ _ _)
theorem rnormal5 (b : BdV) (bad : Bool) (w : World) (hL : b.lo < 18446744073709551616) (hH : b.hi < 18446744073709551616) :
    Calls Tryd.prog 33 #[.agg #[.int .u64 (b.lo : Int), .int .u64 (b.hi : Int), .int .i64 b.mn, .int .i64 b.mx, .bool bad]] w fun e w' => e = .returned (.agg #[.int .u64 ((nrmB b bad).lo : Int), .int .u64 ((nrmB b bad).hi : Int), .int .i64 (nrmB b bad).mn, .int .i64 (nrmB b bad).mx, .bool (nrmG b bad)]) ∧ Below w.heap.size w w' := normD_any b bad w hL hH
theorem rnormal_in (f : FamV) (w : World) (h : f.ok = true) :
    Calls Tryd.prog 33 #[.agg #[.int .u64 ((setN f.lo : Nat) : Int), .int .u64 ((setN f.hi : Nat) : Int), .int .i64 f.mn, .int .i64 f.mx, .bool false]] w fun e w' => e = .returned (.agg #[.int .u64 ((nrmB (bdOf f) false).lo : Int), .int .u64 ((nrmB (bdOf f) false).hi : Int), .int .i64 (nrmB (bdOf f) false).mn, .int .i64 (nrmB (bdOf f) false).mx, .bool (nrmG (bdOf f) false)]) ∧ Below w.heap.size w w' :=
  normD_any (bdOf f) false w (setN_lt (fam_parts h).1) (setN_lt (fam_parts h).2.1)
theorem DRow.ten {w : World} {g n : Nat} {F : Nat → BdV} {G : Nat → Bool} (h : DRow w g n F G) {x : Nat} (hx : x < n) : w.cell? ⟨g, x * 5, none⟩ = some (.int .u64 ((F x).lo : Int)) ∧ w.cell? ⟨g, x * 5 + 1, none⟩ = some (.int .u64 ((F x).hi : Int)) ∧ w.cell? ⟨g, x * 5 + 2, none⟩ = some (.int .i64 (F x).mn) ∧ w.cell? ⟨g, x * 5 + 3, none⟩ = some (.int .i64 (F x).mx) ∧ w.cell? ⟨g, x * 5 + 4, none⟩ = some (.bool (G x)) ∧ w.frozen? ⟨g, x * 5, none⟩ = false ∧ w.frozen? ⟨g, x * 5 + 1, none⟩ = false ∧ w.frozen? ⟨g, x * 5 + 2, none⟩ = false ∧ w.frozen? ⟨g, x * 5 + 3, none⟩ = false ∧ w.frozen? ⟨g, x * 5 + 4, none⟩ = false :=
  ⟨h.cell hx 0 (by decide), h.cell hx 1 (by decide), h.cell hx 2 (by decide), h.cell hx 3 (by decide), h.cell hx 4 (by decide), h.frozen _, h.frozen _, h.frozen _, h.frozen _, h.frozen _⟩
theorem ints_grown {W W' : World} {row : Option Nat} {A : Option Addr} {xs : List Int} (h : Ints W A xs) (g : W.grownBy W' row) (hA : 0 < xs.length → ∀ b o, A = some ⟨b, o, none⟩ → row ≠ some b) : Ints W' A xs :=
  ⟨h.1, h.2.1, fun hp => by
    obtain ⟨b, off, e, hb, hc⟩ := h.2.2 hp
    refine ⟨b, off, e, Nat.lt_of_lt_of_le hb g.size, fun i hi => ?_⟩
    rw [← hc i hi]
    simp only [World.cell?, g.block b hb (fun h => hA hp b off e h.symm)]⟩
/-- a family's lists lie in other blocks than a row -/
def LD (v : Value) (f : FamV) : Prop := (0 < f.lo.length → ∀ b o, f.A = some ⟨b, o, none⟩ → v.ownBlock ≠ some b) ∧ (0 < f.hi.length → ∀ b o, f.B = some ⟨b, o, none⟩ → v.ownBlock ≠ some b)
theorem row_ints2 {W : World} {base x : Nat} {v : Value} (hx : x < 18446744073709551616) (h : BitRow W base v x) : ∃ G cap, v = .slice G (bi x).length cap ∧ Ints W G (bi x) ∧ ∀ b o, G = some ⟨b, o, none⟩ → base ≤ b := by
  obtain ⟨G, cap, rfl, hi⟩ := row_ints hx h
  refine ⟨G, cap, rfl, hi, fun b o e => ?_⟩
  subst e
  exact (h.2.lt b rfl).1
set_option maxRecDepth 100000 in
/-- a family behind a row of one's own; where the row lies -/
theorem wpList_append_fam2 {w0 : World} {ops : Array Oper} {rest : List Oper} {o : Oper} {a : Act} {Q : Exit → Act → World → Prop} (hgd : o.guard = none) (s x : Operand)
    (ho : o.op = .call { callee := .builtin .append, args := #[s, x], argTypes := #[43, 43] })
    (base : Nat) (v : Value) (fs : List FamV) (f : FamV) (hs : a.eval s = v) (hown : w0.ownsRow base 24 4 v fs.length (flatF fs)) (c : Nat)
    (hx : a.eval x = .slice (some ⟨w0.heap.size, 0, none⟩) 1 c) (h63 : fs.length ≤ 1000000) (hbase : base ≤ w0.heap.size)
    (h : ∀ v' w', w'.ownsRow base 24 4 v' (fs ++ [f]).length (flatF (fs ++ [f])) → (w0.alloc (.cells #[famCell f 0, famCell f 1, famCell f 2, famCell f 3] 24)).grownBy w' v.ownBlock → (v'.ownBlock = v.ownBlock ∨ v'.ownBlock = some (w0.heap.size + 1)) → wpList Tryd.prog ops Q rest (a.put o.dst v') w') :
    wpList Tryd.prog ops Q (o :: rest) a (w0.alloc (.cells #[famCell f 0, famCell f 1, famCell f 2, famCell f 3] 24)) := by
  obtain ⟨i0, hi, hz0, hz1, hz2⟩ := info_parts infoF
  refine wpList_append_own_at _ hgd s x 43 ho base 24 i0 _ 4 64 Tryd.underlying43 hi hz0 hz1 hz2 rfl (by decide) v fs.length (flatF fs) hs (hown.alloc _) ⟨w0.heap.size, 0, none⟩ 1 c [famCell f 0, famCell f 1, famCell f 2, famCell f 3] hx rfl (cells4_new _ _ _ _ _ _) ?c2 ?c3 ?c4 (by simp; omega) ?_
  case c2 =>
    intro u hu
    simp only [List.mem_cons, List.not_mem_nil, or_false] at hu
    rcases hu with rfl | rfl | rfl | rfl <;> exact famCell_one _ _
  case c3 => unfold maxLen; omega
  case c4 => omega
  intro v' w' hown' hgrow _ hat
  exact h v' w' (by rw [List.length_append, List.length_singleton, flatF_snoc]; exact hown') hgrow (by simpa using hat)
theorem take_all_succ {rs : List RelV} {n k : Nat} (h : k < rs.length) : (rs.take (k + 1)).all (fun r => r.ok n) = ((rs.take k).all (fun r => r.ok n) && rs[k].ok n) := by
  rw [List.take_succ_eq_append_getElem h, List.all_append]; simp
theorem takeF_all_succ {fs : List FamV} {k : Nat} (h : k < fs.length) : (fs.take (k + 1)).all FamV.ok = ((fs.take k).all FamV.ok && fs[k].ok) := by
  rw [List.take_succ_eq_append_getElem h, List.all_append]; simp

set_option maxRecDepth 100000 in
set_option maxHeartbeats 64000000 in
theorem FixD_any (rs : List RelV) (fs : List FamV) (A B : Option Addr) (c1 c2 : Nat) (w : World) (ha : RelsL w A rs) (hb : FamsLie w B fs) :
    Calls Tryd.prog 27 #[.slice A rs.length c1, .slice B fs.length c2] w (FixDR rs fs w) := by
  have hl1 := ha.1
  have hl2 := hb.1
  have HA := Lib.hid ha
  have HB := Lib.hid hb
  clear ha hb
  by_cases h40 : (40 : Int) < (fs.length : Int)
  · have VF := Lib.hid (show validP rs fs = false from by
      unfold validP
      rw [decide_eq_false (show ¬ fs.length ≤ 40 by omega)]; rfl)
    go_enter Tryd.func27, Tryd.ntmps27
    go_wp2_with fail
    refine bodyPost_ret (v := .tuple #[.slice none 0 0, .int .i64 2]) (by simp [results, Tryd.results27, go_sem]) rfl ?_
    exact ⟨.inl ⟨VF.out, rfl⟩, Below.refl _ _⟩
  go_enter Tryd.func27, Tryd.ntmps27
  go_wp2_with fail
  go_loopw [6, 7] (fun v i wr => ∃ k : Nat, k ≤ fs.length ∧ i = .int .i64 k ∧ (fs.take k).all FamV.ok = true ∧ wr.ownsRow w.heap.size 58 5 v k (flatD (DF fs) (DG fs) k) ∧ Below w.heap.size w wr) (fun _ i _ => fs.length - (intOf i).toNat)
  case atStart => exact ⟨0, Nat.zero_le _, rfl, rfl, World.ownsRow_nil _ _ _ _, Below.refl _ _⟩
  case round =>
    obtain ⟨k, hk, rfl, hok, hown, hbw⟩ := hrel
    obtain ⟨w0, rfl⟩ : ∃ x, x = wr := ⟨_, rfl⟩
    have OK := Lib.hid hok
    have OW := Lib.hid hown
    have BW := Lib.hid hbw
    clear hok hown hbw
    by_cases hlt : k < fs.length
    · obtain ⟨b, o, eB, hb, hf⟩ := HB.out.2 (by omega)
      have LI := Lib.hid (fun w1 (h : Below w.heap.size w w1) => (hf k hlt).over hb h)
      have TK := Lib.hid (takeF_all_succ hlt)
      have VF := Lib.hid (show fs[k].ok = false → validP rs fs = false from fun h => by
        cases hv : validP rs fs with
        | false => rfl
        | true =>
          simp only [validP, Bool.and_eq_true] at hv
          rw [List.all_eq_true.1 hv.1.2 _ (List.getElem_mem hlt)] at h; cases h)
      have FD := Lib.hid (show flatD (DF fs) (DG fs) (k + 1) = flatD (DF fs) (DG fs) k ++ [dCell (nrmB (bdOf fs[k]) false) (nrmG (bdOf fs[k]) false) 0, dCell (nrmB (bdOf fs[k]) false) (nrmG (bdOf fs[k]) false) 1, dCell (nrmB (bdOf fs[k]) false) (nrmG (bdOf fs[k]) false) 2, dCell (nrmB (bdOf fs[k]) false) (nrmG (bdOf fs[k]) false) 3, dCell (nrmB (bdOf fs[k]) false) (nrmG (bdOf fs[k]) false) 4] from by
        rw [flatD_succ]
        have e1 : DF fs k = nrmB (bdOf fs[k]) false := by unfold DF; rw [List.getElem?_eq_getElem hlt]
        have e2 : DG fs k = nrmG (bdOf fs[k]) false := by unfold DG; rw [List.getElem?_eq_getElem hlt]
        rw [e1, e2])
      have EB := Lib.hid eB
      clear hf hb eB
      generalize fs[k] = f at *
      obtain rfl := EB.out
      obtain ⟨a0, a1, a2, a3, a4, a5⟩ := LI.out w0 BW.out
      have VP := Lib.hid (FValid_r_any f.lo f.hi f.mn f.mx f.A f.B f.c1 f.c2 w0 a4 a5)
      rw [show validFB f.lo f.hi f.mn f.mx = f.ok from rfl] at VP
      have z1 : (k : Int) < (fs.length : Int) := by omega
      have z2 : (0 : Int) ≤ (k : Int) := by omega
      clear a4 a5
      cases hfo : f.ok with
      | false =>
        rw [hfo] at VP
        have VV := Lib.hid (VF.out hfo)
        clear hfo VF
        go_wp2_with (go_at_call 16; refine VP.out.mono ?_; rintro e w4 ⟨rfl, hb⟩; have B4 := Lib.hid (BW.out.trans (hb.mono BW.out.size)); clear hb VP)
        refine bodyPost_ret (v := .tuple #[.slice none 0 0, .int .i64 2]) (by simp [results, Tryd.results27, go_sem]) rfl ?_
        exact ⟨.inl ⟨VV.out, rfl⟩, B4.out⟩
      | true =>
        rw [hfo] at VP
        have HFO := Lib.hid hfo
        clear hfo VF
        go_upto_region 9 with (go_at_call 16; refine VP.out.mono ?_; rintro e w4 ⟨rfl, hb⟩; have B4 := Lib.hid hb; clear hb VP)
        clear a0 a1 a2 a3
        have BW4 := Lib.hid (BW.out.trans (B4.out.mono BW.out.size))
        obtain ⟨a0, a1, a2, a3, a4, a5⟩ := LI.out w4 BW4.out
        have vp := fam_parts HFO.out
        have IN := Lib.hid (rin_any f.lo f.hi f.mn f.mx f.A f.B f.c1 f.c2 w4 a4 a5 vp.1 vp.2.1)
        have NM := Lib.hid (fun w1 => rnormal_in f w1 HFO.out)
        clear a4 a5 vp
        generalize nrmB (bdOf f) false = c at *
        generalize nrmG (bdOf f) false = q at *
        have OW4 := Lib.hid (owns_over OW.out B4.out)
        go_wp2_with (first | (go_at_call 34; refine IN.out.mono ?_; rintro e w5 ⟨rfl, hb⟩; have B5 := Lib.hid (B4.out.trans (hb.mono B4.out.size)); clear hb IN a0 a1 a2 a3) | (go_at_call 33; refine (NM.out _).mono ?_; rintro e w6 ⟨rfl, hb⟩; have B6 := Lib.hid (B5.out.trans (hb.mono B5.out.size)); have BW6 := Lib.hid (BW.out.trans (B6.out.mono BW.out.size)); have OW6 := Lib.hid (owns_over OW.out B6.out); clear hb NM) | (at_builtin; refine wpList_append_dfam (w := w6.alloc (.cells #[.int .u64 (c.lo : Int), .int .u64 (c.hi : Int), .int .i64 c.mn, .int .i64 c.mx, .bool q] 58)) rfl _ _ rfl w.heap.size _ k (flatD (DF fs) (DG fs) k) (by go_simp) (OW6.out.alloc _) (some ⟨w6.heap.size, 0, none⟩) 1 1 [dCell c q 0, dCell c q 1, dCell c q 2, dCell c q 3, dCell c q 4] (by go_simp) rfl (fun h => by cases h) (fun ad h => by cases h; exact cells5_new _ _ _ _ _ _ _) (by intro u hu; simp only [List.mem_cons, List.not_mem_nil, or_false] at hu; rcases hu with rfl | rfl | rfl | rfl | rfl <;> exact dCell_one _ _ _) (by omega) (Nat.le_trans BW6.out.size (by simp)) ?_; intro v' w' ho' hg'; have HO := Lib.hid ho'; have HG := Lib.hid (Below.grown (BW6.out.alloc BW6.out.size _) hg' (Nat.le_trans BW6.out.size (by simp)) (fun j e => (OW6.out.lt j e).1)); clear ho' hg'))
        go_roundw
        case rel =>
          refine ⟨k + 1, by omega, by go_num, by rw [TK.out, OK.out, HFO.out]; rfl, by rw [FD.out]; exact HO.out, HG.out⟩
        case measure => simp [intOf]; omega
    · obtain rfl : k = fs.length := by omega
      have AOK := Lib.hid (show fs.all FamV.ok = true from by have := OK.out; rwa [List.take_length] at this)
      have NX0 := Lib.hid (nx_of_owns OW.out)
      have H40 := Lib.hid (show fs.length ≤ 40 from by omega)
      clear OK OW h40
      go_wp2_with fail
      go_loopw [8] (fun i wr => ∃ k : Nat, k ≤ rs.length ∧ i = .int .i64 k ∧ (rs.take k).all (fun r => r.ok fs.length) = true ∧ Below w0.heap.size w0 wr) (fun i _ => rs.length - (intOf i).toNat)
      case atStart => exact ⟨0, Nat.zero_le _, rfl, rfl, Below.refl _ _⟩
      case round =>
        obtain ⟨k, hk, rfl, hok, hbw⟩ := hrel
        obtain ⟨w1, rfl⟩ : ∃ x, x = wr := ⟨_, rfl⟩
        have OK := Lib.hid hok
        have B01 := Lib.hid hbw
        have BW1 := Lib.hid (BW.out.trans (hbw.mono BW.out.size))
        clear hok hbw
        by_cases hlt : k < rs.length
        · obtain ⟨b, o, eA, hb, hf⟩ := HA.out.2 (by omega)
          have LI := Lib.hid ((hf k hlt).over hb BW1.out)
          have TK := Lib.hid (take_all_succ (n := fs.length) hlt)
          have VF := Lib.hid (show rs[k].ok fs.length = false → validP rs fs = false from fun h => by
            cases hv : validP rs fs with
            | false => rfl
            | true =>
              simp only [validP, Bool.and_eq_true] at hv
              have h2 : rs[k].ok fs.length = true := List.all_eq_true.1 hv.2 _ (List.getElem_mem hlt)
              rw [h2] at h; cases h)
          have EA := Lib.hid eA
          clear hf hb eA
          generalize rs[k] = r at *
          obtain rfl := EA.out
          obtain ⟨a0, a1, a2, a3, a4⟩ := LI.out
          have VR := Lib.hid (ValidRel_r_any r.k r.d a3 r.vs r.N fs.length r.A r.c w1 a4)
          rw [show relB r.d r.vs fs.length = r.ok fs.length from rfl] at VR
          have z1 : (k : Int) < (rs.length : Int) := by omega
          have z2 : (0 : Int) ≤ (k : Int) := by omega
          clear a3 a4 LI
          cases hro : r.ok fs.length with
          | false =>
            rw [hro] at VR
            have VV := Lib.hid (VF.out hro)
            clear hro VF
            go_wp2_with (go_at_call 30; refine VR.out.mono ?_; rintro e w4 ⟨rfl, hb⟩; have B4 := Lib.hid (BW1.out.trans (hb.mono BW1.out.size)); clear hb VR)
            refine bodyPost_ret (v := .tuple #[.slice none 0 0, .int .i64 2]) (by simp [results, Tryd.results27, go_sem]) rfl ?_
            exact ⟨.inl ⟨VV.out, rfl⟩, B4.out⟩
          | true =>
            rw [hro] at VR
            have HRO := Lib.hid hro
            clear hro VF
            go_wp2_with (go_at_call 30; refine VR.out.mono ?_; rintro e w4 ⟨rfl, hb⟩; have B4 := Lib.hid (B01.out.trans (hb.mono B01.out.size)); clear hb VR a0 a1 a2)
            go_roundw
            case rel => exact ⟨k + 1, by omega, by go_num, by rw [TK.out, OK.out, HRO.out]; rfl, B4.out⟩
            case measure => simp [intOf]; omega
        · obtain rfl : k = rs.length := by omega
          have ROK := Lib.hid (show rs.all (fun r => r.ok fs.length) = true from by have := OK.out; rwa [List.take_length] at this)
          have NX1 := Lib.hid (NX0.out.below B01.out)
          clear OK NX0
          by_cases h100 : (100 : Int) < (rs.length : Int)
          · have VV := Lib.hid (show validP rs fs = false from by
              unfold validP
              rw [decide_eq_false (show ¬ rs.length ≤ 100 by omega)]; simp)
            go_wp2_with fail
            refine bodyPost_ret (v := .tuple #[.slice none 0 0, .int .i64 2]) (by simp [results, Tryd.results27, go_sem]) rfl ?_
            exact ⟨.inl ⟨VV.out, rfl⟩, BW1.out⟩
          have HV := Lib.hid (show validP rs fs = true from by
            unfold validP
            rw [decide_eq_true H40.out, decide_eq_true (show rs.length ≤ 100 by omega), AOK.out, ROK.out]; rfl)
          have HRB := Lib.hid (show ∀ r ∈ rs, relB r.d r.vs fs.length = true from fun r h => List.all_eq_true.1 ROK.out r h)
          have ST0 := Lib.hid (show (okAll fs = true ∧ (DG fs = fun _ => false) ∧ DS rs (firstF fs) (DF fs)) ∨ (okAll fs = false ∧ ∃ i, i < fs.length ∧ DG fs i = true) from by
            cases hk : okAll fs with
            | true =>
              obtain ⟨e1, e2⟩ := df_ok hk
              exact .inl ⟨rfl, e2, by rw [e1]; exact DS.start (nml_first AOK.out hk) (fine_first AOK.out hk)⟩
            | false => exact .inr ⟨rfl, df_bad hk⟩)
          have BD0 := Lib.hid (bits_df AOK.out)
          go_wp2_with fail
          go_loopw [6, 9, 10, 11, 12] (fun v6 _ _ _ _ wr => ∃ (F : Nat → BdV) (G : Nat → Bool), NX wr w.heap.size v6 fs.length F G ∧ Bits F ∧ ((okAll fs = true ∧ (G = fun _ => false) ∧ DS rs (firstF fs) F) ∨ (okAll fs = false ∧ ∃ i, i < fs.length ∧ G i = true)) ∧ Below w.heap.size w wr) (fun v6 _ _ _ _ wr => mD wr v6 fs.length)
          case atStart => exact ⟨DF fs, DG fs, NX1.out, BD0.out, ST0.out, BW1.out⟩
          case round =>
            obtain ⟨F, G, hnx, hB, hst, hbw⟩ := hrel
            obtain ⟨w2, rfl⟩ : ∃ x, x = wr := ⟨_, rfl⟩
            have BW2 := Lib.hid hbw
            have HB2 := Lib.hid hB
            have ST := Lib.hid hst
            have NX6 := Lib.hid hnx
            obtain ⟨A6, cap6, rfl, hz6, hp6⟩ := hnx
            have NE6 := Lib.hid (NX6.out.news rfl)
            clear hbw hB hst hz6 hp6 ST0 BD0 NX1
            have z40 : fs.length ≤ 40 := H40.out
            go_upto_region 18 with (at_builtin; refine wpList_append_dfam rfl _ _ rfl w2.heap.size _ 0 [] rfl (World.ownsRow_nil _ _ _ _) A6 fs.length cap6 (flatD F G fs.length) (by go_simp) (flatD_length _ _ _) NE6.out.1 NE6.out.2 (fun u hu => by obtain ⟨j, hj⟩ := List.mem_iff_getElem?.1 hu; rw [(flatD_get hj).2]; exact dCell_one _ _ _) (by omega) (Nat.le_refl _) ?_; intro v' w3 ho' hg'; have HO := Lib.hid ho'; have B23 := Lib.hid (Below.grown (Below.refl w2.heap.size w2) hg' (Nat.le_refl _) (fun k e => by cases e)); clear ho' hg')
            have NX9 := Lib.hid (nx_of_owns (show w3.ownsRow w2.heap.size 58 5 v' fs.length (flatD F G fs.length) from by have := HO.out; rwa [Nat.zero_add, List.nil_append] at this))
            obtain ⟨A9, cap9, rfl, hz9, hp9⟩ := NX9.out
            have HZ9 := Lib.hid hz9
            clear HO hz9 hp9 NE6
            go_wp2_with fail
            go_loopw [10] (fun i wr => ∃ k : Nat, k ≤ rs.length ∧ i = .int .i64 k ∧ Bits (keepsF (rs.take k) F) ∧ NX wr w2.heap.size (.slice A9 fs.length cap9) fs.length (keepsF (rs.take k) F) (keepsG (rs.take k) G) ∧ Below w2.heap.size w2 wr) (fun i _ => rs.length - (intOf i).toNat)
            case atStart => exact ⟨0, Nat.zero_le _, rfl, HB2.out, NX9.out, B23.out⟩
            case round =>
              obtain ⟨k, hk, rfl, hbk, hnx, hbw⟩ := hrel
              obtain ⟨w4, rfl⟩ : ∃ x, x = wr := ⟨_, rfl⟩
              have BK := Lib.hid hbk
              have NK := Lib.hid hnx
              have B24 := Lib.hid hbw
              have BW4 := Lib.hid (BW2.out.trans (hbw.mono BW2.out.size))
              clear hbk hnx hbw
              by_cases hlt : k < rs.length
              · obtain ⟨b, o, eA, hb, hf⟩ := HA.out.2 (by omega)
                have LI := Lib.hid ((hf k hlt).over hb BW4.out)
                have RB := Lib.hid (HRB.out _ (List.getElem_mem hlt))
                have AL := Lib.hid (show ∀ b o, rs[k].A = some ⟨b, o, none⟩ → 0 < rs[k].vs.length → b < w.heap.size from fun b' o' e' hp => by
                  obtain ⟨b2, o2, e2, hb2, _⟩ := (hf k hlt).2.2.2.2.2.2 hp
                  rw [e'] at e2
                  cases e2
                  exact hb2)
                have KF := Lib.hid (keepsF_succ rs F k hlt)
                have KG := Lib.hid (keepsG_succ rs G k hlt)
                have BK1 := Lib.hid (show Bits (keepsF (rs.take (k + 1)) F) from by rw [keepsF_succ rs F k hlt]; exact bits_kF _ _ _ _ BK.out)
                have EA := Lib.hid eA
                clear hf hb eA
                generalize rs[k] = r at *
                obtain rfl := EA.out
                obtain ⟨a0, a1, a2, a3, a4⟩ := LI.out
                obtain ⟨m, hm1, hm2, hin, _⟩ := relV_parts RB.out
                have hm0 : 0 < r.vs.length := by cases hd : r.d <;> rw [hd] at hm1 <;> simp [varsN] at hm1 <;> omega
                have hn0 : 0 < fs.length := by have := hin _ (List.getElem_mem hm0); omega
                obtain ⟨A9', cap9', hv9, hz9, hp9⟩ := NK.out
                simp only [Value.slice.injEq, true_and] at hv9
                obtain ⟨rfl, rfl⟩ := hv9
                obtain ⟨g9, hg9, rfl, hr9⟩ := hp9 hn0
                have HG9 := Lib.hid hg9
                have KP := Lib.hid (keep_any r.k r.d a3 r.vs r.N r.A r.c cap9 g9 fs.length (keepsF (rs.take k) F) (keepsG (rs.take k) G) w4 a4 RB.out hr9 BK.out (fun b' o' e' => by have := AL.out b' o' e' hm0; have := BW2.out.size; omega))
                have z1 : (k : Int) < (rs.length : Int) := by omega
                have z2 : (0 : Int) ≤ (k : Int) := by omega
                clear a3 a4 LI hm1 hm2 hin hr9 hp9 hz9 hg9 AL RB NK HZ9 NX9
                go_wp2_with (go_at_call 64; refine KP.out.mono ?_; rintro e w5 ⟨rfl, hr, hk5⟩; have R5 := Lib.hid hr; have K5 := Lib.hid hk5; clear hr hk5 KP a0 a1 a2)
                go_roundw
                case rel => exact ⟨k + 1, by omega, by go_num, BK1.out, ⟨_, cap9, rfl, (fun h => by cases h), fun _ => ⟨g9, HG9.out, rfl, by rw [KF.out, KG.out]; exact R5.out⟩⟩, B24.out.trans (K5.out.1.mono HG9.out)⟩
                case measure => simp [intOf]; omega
              · obtain rfl : k = rs.length := by omega
                rw [List.take_length] at BK NK
                clear NX9 B23
                have GM := Lib.hid (show ∀ i, G i = true → keepsG rs G i = true from fun i h => keepsG_mono rs G i h)
                have GE := Lib.hid (show (G = fun _ => false) → ∀ i, keepsG rs G i = keepsG rs (fun _ => false) i from fun e i => by rw [e])
                obtain ⟨K, hK⟩ : ∃ K, keepsF rs F = K := ⟨_, rfl⟩
                have HK := Lib.hid hK
                obtain ⟨GK, hGK⟩ : ∃ K, keepsG rs G = K := ⟨_, rfl⟩
                have HGK := Lib.hid hGK
                rw [hK] at BK NK
                rw [hGK] at NK GM GE
                clear hK hGK
                have NU := Lib.hid (show NX w4 w2.heap.size (.slice A9 fs.length cap9) fs.length (normU 0 K) GK from by rw [normU_zero]; exact NK.out)
                clear NK
                go_wp2_with fail
                go_loopw [11, 12] (fun sm i wr => ∃ k : Nat, k ≤ fs.length ∧ i = .int .i64 k ∧ sm = .bool (sameU K F k) ∧ (∀ j, j < k → okB (K j) = true ∧ GK j = false) ∧ NX wr w2.heap.size (.slice A9 fs.length cap9) fs.length (normU k K) GK ∧ Below w2.heap.size w2 wr) (fun _ i _ => fs.length - (intOf i).toNat)
                case atStart => exact ⟨0, Nat.zero_le _, rfl, rfl, fun j hj => absurd hj (Nat.not_lt_zero _), NU.out, B24.out⟩
                case round =>
                  obtain ⟨k, hk, rfl, rfl, hall, hnx, hbw⟩ := hrel
                  obtain ⟨w5, rfl⟩ : ∃ x, x = wr := ⟨_, rfl⟩
                  have HALL := Lib.hid hall
                  have NK := Lib.hid hnx
                  have B25 := Lib.hid hbw
                  have BW5 := Lib.hid (BW2.out.trans (hbw.mono BW2.out.size))
                  clear hall hnx hbw NU B24
                  by_cases hlt : k < fs.length
                  · obtain ⟨A9', cap9', hv9, hz9, hp9⟩ := NK.out
                    simp only [Value.slice.injEq, true_and] at hv9
                    obtain ⟨rfl, rfl⟩ := hv9
                    obtain ⟨g9, hg9, rfl, hr9⟩ := hp9 (by omega)
                    have HG9 := Lib.hid hg9
                    have R9 := Lib.hid hr9
                    obtain ⟨A6', cap6', hv6, hz6, hp6⟩ := NX6.out
                    simp only [Value.slice.injEq, true_and] at hv6
                    obtain ⟨rfl, rfl⟩ := hv6
                    obtain ⟨g6, hg6, rfl, hr6⟩ := hp6 (by omega)
                    have HG6 := Lib.hid hr6.lt
                    have R6 := Lib.hid hr6
                    have hn9 : g6 ≠ g9 := by have := hr6.lt; omega
                    clear hz9 hp9 hr9 hg9 hz6 hp6 hr6 hg6 NK HZ9
                    have hg9w := R9.out.lt
                    have a0 : w5.cell? ⟨g9, k * 5, none⟩ = some (.int .u64 ((K k).lo : Int)) := by have := R9.out.cell hlt 0 (by decide); rwa [normU_at] at this
                    have a1 : w5.cell? ⟨g9, k * 5 + 1, none⟩ = some (.int .u64 ((K k).hi : Int)) := by have := R9.out.cell hlt 1 (by decide); rwa [normU_at] at this
                    have a2 : w5.cell? ⟨g9, k * 5 + 2, none⟩ = some (.int .i64 (K k).mn) := by have := R9.out.cell hlt 2 (by decide); rwa [normU_at] at this
                    have a3 : w5.cell? ⟨g9, k * 5 + 3, none⟩ = some (.int .i64 (K k).mx) := by have := R9.out.cell hlt 3 (by decide); rwa [normU_at] at this
                    have a4 : w5.cell? ⟨g9, k * 5 + 4, none⟩ = some (.bool (GK k)) := R9.out.cell hlt 4 (by decide)
                    have NM := Lib.hid (rnormal5 (K k) (GK k) w5 (BK.out k).1 (BK.out k).2)
                    have z1 : (k : Int) < (fs.length : Int) := by omega
                    have z2 : (0 : Int) ≤ (k : Int) := by omega
                    obtain ⟨c, hc⟩ : ∃ c, nrmB (K k) (GK k) = c := ⟨_, rfl⟩
                    obtain ⟨q, hq⟩ : ∃ q, nrmG (K k) (GK k) = q := ⟨_, rfl⟩
                    have HCC := Lib.hid hc
                    have HQQ := Lib.hid hq
                    rw [hc, hq] at NM
                    clear hc hq hg9w
                    go_upto_region 27 with (go_at_call 33; refine NM.out.mono ?_; rintro e w6 ⟨rfl, hb⟩; have B56 := Lib.hid hb; have R6w := Lib.hid (R9.out.at (hb.block g9 R9.out.lt)); clear hb NM a0 a1 a2 a3 a4; obtain ⟨a0, a1, a2, a3, a4, f0, f1, f2, f3, f4⟩ := R6w.out.ten hlt)
                    clear a0 a1 a2 a3 a4 f0 f1 f2 f3 f4
                    have R7 := Lib.hid (R6w.out.setD k c q)
                    have B27 := Lib.hid (B25.out.trans ((B56.out.mono B25.out.size).trans ((Only.setD w6 g9 k c q).1.mono HG9.out)))
                    have e7 : (((((w6.setCell ⟨g9, k * 5, none⟩ (.int .u64 (c.lo : Int))).setCell ⟨g9, k * 5 + 1, none⟩ (.int .u64 (c.hi : Int))).setCell ⟨g9, k * 5 + 2, none⟩ (.int .i64 c.mn)).setCell ⟨g9, k * 5 + 3, none⟩ (.int .i64 c.mx)).setCell ⟨g9, k * 5 + 4, none⟩ (.bool q)) = setD w6 g9 k c q := rfl
                    rw [e7]
                    clear e7
                    generalize setD w6 g9 k c q = w7 at *
                    have a4 : w7.cell? ⟨g9, k * 5 + 4, none⟩ = some (.bool q) := by have := R7.out.cell hlt 4 (by decide); rw [upd_same, updG_same] at this; exact this
                    cases q with
                    | true =>
                      go_wp2_with fail
                      refine bodyPost_ret (v := .tuple #[.slice none 0 0, .int .i64 60]) (by simp [results, Tryd.results27, go_sem]) rfl ?_
                      refine ⟨.inr (.inl ⟨HV.out, ?_, rfl⟩), BW2.out.trans (B27.out.mono BW2.out.size)⟩
                      rcases ST.out with ⟨h1, h2, h3⟩ | ⟨h1, _⟩
                      · refine .inr (h3.lost (i := k) ?_)
                        have := HQQ.out
                        unfold nrmG at this
                        rw [Bool.or_eq_true, Bool.not_eq_true'] at this
                        rcases this with h | h
                        · exact .inr (by rw [← GE.out h2 k]; exact h)
                        · exact .inl (by rw [HK.out]; exact h)
                      · exact .inl h1
                    | false =>
                      have OKK := Lib.hid (show okB (K k) = true ∧ GK k = false from by
                        have := HQQ.out
                        unfold nrmG at this
                        rw [Bool.or_eq_false_iff, Bool.not_eq_false'] at this
                        exact ⟨this.2, this.1⟩)
                      have CE := Lib.hid (show c = normB (K k) from by
                        rw [← HCC.out]; unfold nrmB; rw [HQQ.out]; rfl)
                      have GK0 := Lib.hid (show G k = false from by
                        cases h : G k with
                        | false => rfl
                        | true => have := GM.out k h; rw [OKK.out.2] at this; cases this)
                      have R7' := Lib.hid (show DRow w7 g9 fs.length (normU (k + 1) K) GK from by
                        have := R7.out
                        rw [CE.out, normU_succ] at this
                        refine this.congr (fun _ _ => rfl) fun i _ => ?_
                        by_cases e : i = k
                        · rw [e, updG_same, OKK.out.2]
                        · rw [updG_other _ _ e])
                      have ALL1 := Lib.hid (show ∀ j, j < k + 1 → okB (K j) = true ∧ GK j = false from fun j hj => by
                        rcases Nat.lt_succ_iff_lt_or_eq.mp hj with h | rfl
                        · exact HALL.out j h
                        · exact OKK.out)
                      have SU := Lib.hid (sameU_succ K F k)
                      rw [← CE.out] at SU
                      have b0 : w7.cell? ⟨g9, k * 5, none⟩ = some (.int .u64 (c.lo : Int)) := by have := R7.out.cell hlt 0 (by decide); rw [upd_same] at this; exact this
                      have b1 : w7.cell? ⟨g9, k * 5 + 1, none⟩ = some (.int .u64 (c.hi : Int)) := by have := R7.out.cell hlt 1 (by decide); rw [upd_same] at this; exact this
                      have b2 : w7.cell? ⟨g9, k * 5 + 2, none⟩ = some (.int .i64 c.mn) := by have := R7.out.cell hlt 2 (by decide); rw [upd_same] at this; exact this
                      have b3 : w7.cell? ⟨g9, k * 5 + 3, none⟩ = some (.int .i64 c.mx) := by have := R7.out.cell hlt 3 (by decide); rw [upd_same] at this; exact this
                      have R6' := Lib.hid (R6.out.at (B27.out.block g6 HG6.out))
                      have d0 : w7.cell? ⟨g6, k * 5, none⟩ = some (.int .u64 ((F k).lo : Int)) := R6'.out.cell hlt 0 (by decide)
                      have d1 : w7.cell? ⟨g6, k * 5 + 1, none⟩ = some (.int .u64 ((F k).hi : Int)) := R6'.out.cell hlt 1 (by decide)
                      have d2 : w7.cell? ⟨g6, k * 5 + 2, none⟩ = some (.int .i64 (F k).mn) := R6'.out.cell hlt 2 (by decide)
                      have d3 : w7.cell? ⟨g6, k * 5 + 3, none⟩ = some (.int .i64 (F k).mx) := R6'.out.cell hlt 3 (by decide)
                      have d4 : w7.cell? ⟨g6, k * 5 + 4, none⟩ = some (.bool false) := by rw [← GK0.out]; exact R6'.out.cell hlt 4 (by decide)
                      generalize F k = d at *
                      obtain ⟨b, hb⟩ : ∃ b : Bool, eqB c d = b := ⟨_, rfl⟩
                      have HBB := Lib.hid (show decide ((c.lo : Int) = d.lo ∧ (c.hi : Int) = d.hi ∧ c.mn = d.mn ∧ c.mx = d.mx) = b from hb)
                      rw [hb] at SU
                      clear hb
                      clear R7 R6' R6w CE HCC HQQ
                      go_upto_region 29 with fail
                      cases hsu : sameU K F k with
                      | false =>
                        rw [hsu] at SU
                        clear hsu
                        have B28 := Lib.hid (B27.out.drew)
                        refine wp_region_held_drew (S := fun (wx : World) => wx.cell? ⟨g9, k * 5, none⟩ = some (.int .u64 (c.lo : Int)) ∧ wx.cell? ⟨g9, k * 5 + 1, none⟩ = some (.int .u64 (c.hi : Int)) ∧ wx.cell? ⟨g9, k * 5 + 2, none⟩ = some (.int .i64 c.mn) ∧ wx.cell? ⟨g9, k * 5 + 3, none⟩ = some (.int .i64 c.mx) ∧ wx.cell? ⟨g9, k * 5 + 4, none⟩ = some (.bool false) ∧ wx.cell? ⟨g6, k * 5, none⟩ = some (.int .u64 (d.lo : Int)) ∧ wx.cell? ⟨g6, k * 5 + 1, none⟩ = some (.int .u64 (d.hi : Int)) ∧ wx.cell? ⟨g6, k * 5 + 2, none⟩ = some (.int .i64 d.mn) ∧ wx.cell? ⟨g6, k * 5 + 3, none⟩ = some (.int .i64 d.mx) ∧ wx.cell? ⟨g6, k * 5 + 4, none⟩ = some (.bool false)) (by kernel_rfl) ⟨b0, b1, b2, b3, a4, d0, d1, d2, d3, d4⟩ (fun hHeld => ?_)
                        clear a4 b0 b1 b2 b3 d0 d1 d2 d3 d4
                        replace R7' := Lib.hid (show DRow w7.drew g9 fs.length (normU (k + 1) K) GK from R7'.out)
                        generalize w7.drew = V at *
                        refine wpAnyH_take (i := 0) (oi := ⟨some 89, .move (.tmp 11), 4, "ref.go:270", #[], none⟩) (v := ?vn1k0) rfl (by kernel_rfl) (by kernel_rfl) (by kernel_rfl) (fun _ _ _ h => h) (Or.inl ⟨by kernel_rfl, ?yn1k0⟩) (by assumption) ?rn1k0
                        case yn1k0 => intro w hSw; (try dsimp only at hSw); go_simp; try with_reducible rfl
                        try simp only [Act.put, List.setIfInBounds_toArray, List.set_cons_zero, List.set_cons_succ]
                        refine wpAnyH_take (i := 1) (oi := ⟨some 90, .move (.tmp 89), 4, "ref.go:270", #[⟨0, .data⟩], none⟩) (v := ?vn2k1) rfl (by kernel_rfl) (by kernel_rfl) (by kernel_rfl) (fun _ _ _ h => h) (Or.inl ⟨by kernel_rfl, ?yn2k1⟩) (by assumption) ?rn2k1
                        case yn2k1 => intro w hSw; (try dsimp only at hSw); go_simp; try with_reducible rfl
                        try simp only [Act.put, List.setIfInBounds_toArray, List.set_cons_zero, List.set_cons_succ]
                        refine wpAnyH_take (i := 2) (oi := ⟨some 91, .move (.tmp 9), 83, "ref.go:270", #[⟨1, .guard⟩], some (1, true)⟩) (v := undef) rfl (by kernel_rfl) (by kernel_rfl) (by kernel_rfl) (fun _ _ _ h => h) (Or.inr ⟨by kernel_rfl, rfl⟩) (by assumption) ?rn3k2
                        try simp only [Act.put, List.setIfInBounds_toArray, List.set_cons_zero, List.set_cons_succ]
                        refine wpAnyH_take (i := 3) (oi := ⟨some 92, .move (.tmp 12), 3, "ref.go:270", #[⟨1, .guard⟩], some (1, true)⟩) (v := undef) rfl (by kernel_rfl) (by kernel_rfl) (by kernel_rfl) (fun _ _ _ h => h) (Or.inr ⟨by kernel_rfl, rfl⟩) (by assumption) ?rn4k3
                        try simp only [Act.put, List.setIfInBounds_toArray, List.set_cons_zero, List.set_cons_succ]
                        refine wpAnyH_take (i := 4) (oi := ⟨some 93, .indexAddr 83 (.tmp 91) (.tmp 92), 0, "ref.go:270", #[⟨2, .data⟩, ⟨3, .data⟩, ⟨1, .guard⟩], some (1, true)⟩) (v := undef) rfl (by kernel_rfl) (by kernel_rfl) (by kernel_rfl) (fun _ _ _ h => h) (Or.inr ⟨by kernel_rfl, rfl⟩) (by assumption) ?rn5k4
                        try simp only [Act.put, List.setIfInBounds_toArray, List.set_cons_zero, List.set_cons_succ]
                        refine wpAnyH_take (i := 5) (oi := ⟨some 94, .load 58 (.tmp 93), 58, "ref.go:270", #[⟨4, .data⟩, ⟨1, .guard⟩], some (1, true)⟩) (v := undef) rfl (by kernel_rfl) (by kernel_rfl) (by kernel_rfl) (fun _ _ _ h => h) (Or.inr ⟨by kernel_rfl, rfl⟩) (by assumption) ?rn6k5
                        try simp only [Act.put, List.setIfInBounds_toArray, List.set_cons_zero, List.set_cons_succ]
                        refine wpAnyH_take (i := 6) (oi := ⟨some 95, .move (.tmp 6), 83, "ref.go:270", #[⟨1, .guard⟩], some (1, true)⟩) (v := undef) rfl (by kernel_rfl) (by kernel_rfl) (by kernel_rfl) (fun _ _ _ h => h) (Or.inr ⟨by kernel_rfl, rfl⟩) (by assumption) ?rn7k6
                        try simp only [Act.put, List.setIfInBounds_toArray, List.set_cons_zero, List.set_cons_succ]
                        refine wpAnyH_take (i := 7) (oi := ⟨some 96, .move (.tmp 12), 3, "ref.go:270", #[⟨1, .guard⟩], some (1, true)⟩) (v := undef) rfl (by kernel_rfl) (by kernel_rfl) (by kernel_rfl) (fun _ _ _ h => h) (Or.inr ⟨by kernel_rfl, rfl⟩) (by assumption) ?rn8k7
                        try simp only [Act.put, List.setIfInBounds_toArray, List.set_cons_zero, List.set_cons_succ]
                        refine wpAnyH_take (i := 8) (oi := ⟨some 97, .indexAddr 83 (.tmp 95) (.tmp 96), 0, "ref.go:270", #[⟨6, .data⟩, ⟨7, .data⟩, ⟨1, .guard⟩], some (1, true)⟩) (v := undef) rfl (by kernel_rfl) (by kernel_rfl) (by kernel_rfl) (fun _ _ _ h => h) (Or.inr ⟨by kernel_rfl, rfl⟩) (by assumption) ?rn9k8
                        try simp only [Act.put, List.setIfInBounds_toArray, List.set_cons_zero, List.set_cons_succ]
                        refine wpAnyH_take (i := 9) (oi := ⟨some 98, .load 58 (.tmp 97), 58, "ref.go:270", #[⟨8, .data⟩, ⟨1, .guard⟩], some (1, true)⟩) (v := undef) rfl (by kernel_rfl) (by kernel_rfl) (by kernel_rfl) (fun _ _ _ h => h) (Or.inr ⟨by kernel_rfl, rfl⟩) (by assumption) ?rn10k9
                        try simp only [Act.put, List.setIfInBounds_toArray, List.set_cons_zero, List.set_cons_succ]
                        refine wpAnyH_take (i := 10) (oi := ⟨some 99, .binOp .eql 58 (.tmp 94) (.tmp 98) 58, 4, "ref.go:270", #[⟨5, .data⟩, ⟨9, .data⟩, ⟨1, .guard⟩], some (1, true)⟩) (v := undef) rfl (by kernel_rfl) (by kernel_rfl) (by kernel_rfl) (fun _ _ _ h => h) (Or.inr ⟨by kernel_rfl, rfl⟩) (by assumption) ?rn11k10
                        try simp only [Act.put, List.setIfInBounds_toArray, List.set_cons_zero, List.set_cons_succ]
                        refine wpAnyH_take (i := 11) (oi := ⟨some 100, .pick (.tmp 90) (.tmp 99) (.const (Value.bool false)), 4, "ref.go:270", #[⟨1, .data⟩, ⟨10, .data⟩], none⟩) (v := ?vn12k11) rfl (by kernel_rfl) (by kernel_rfl) (by kernel_rfl) (fun _ _ _ h => h) (Or.inl ⟨by kernel_rfl, ?yn12k11⟩) (by assumption) ?rn12k11
                        case yn12k11 => intro w hSw; (try dsimp only at hSw); go_simp; try with_reducible rfl
                        try simp only [Act.put, List.setIfInBounds_toArray, List.set_cons_zero, List.set_cons_succ]
                        refine wpAnyH_take (i := 12) (oi := ⟨some 11, .assign (.tmp 100), 4, "ref.go:270", #[⟨11, .data⟩, ⟨1, .chain⟩, ⟨0, .phase⟩, ⟨1, .phase⟩, ⟨2, .phase⟩, ⟨3, .phase⟩, ⟨4, .phase⟩, ⟨5, .phase⟩, ⟨6, .phase⟩, ⟨7, .phase⟩, ⟨8, .phase⟩, ⟨9, .phase⟩, ⟨10, .phase⟩, ⟨11, .phase⟩], none⟩) (v := ?vn13k12) rfl (by kernel_rfl) (by kernel_rfl) (by kernel_rfl) (fun _ _ _ h => h) (Or.inl ⟨by kernel_rfl, ?yn13k12⟩) (by assumption) ?rn13k12
                        case yn13k12 => intro w hSw; (try dsimp only at hSw); go_simp; try with_reducible rfl
                        try simp only [Act.put, List.setIfInBounds_toArray, List.set_cons_zero, List.set_cons_succ]
                        refine wpAnyH_done (by kernel_rfl) ?_ _
                        clear hHeld
                        go_wp2_with fail
                        go_roundw
                        case rel => exact ⟨k + 1, by omega, by go_num, by rw [SU.out]; first | rfl | simp, ALL1.out, ⟨_, cap9, rfl, (fun h => by cases h), fun _ => ⟨g9, HG9.out, rfl, R7'.out⟩⟩, B28.out⟩
                        case measure => simp [intOf]; omega
                      | true =>
                        rw [hsu] at SU
                        clear hsu
                        have B28 := Lib.hid (B27.out.drew)
                        refine wp_region_held_drew (S := fun (wx : World) => wx.cell? ⟨g9, k * 5, none⟩ = some (.int .u64 (c.lo : Int)) ∧ wx.cell? ⟨g9, k * 5 + 1, none⟩ = some (.int .u64 (c.hi : Int)) ∧ wx.cell? ⟨g9, k * 5 + 2, none⟩ = some (.int .i64 c.mn) ∧ wx.cell? ⟨g9, k * 5 + 3, none⟩ = some (.int .i64 c.mx) ∧ wx.cell? ⟨g9, k * 5 + 4, none⟩ = some (.bool false) ∧ wx.cell? ⟨g6, k * 5, none⟩ = some (.int .u64 (d.lo : Int)) ∧ wx.cell? ⟨g6, k * 5 + 1, none⟩ = some (.int .u64 (d.hi : Int)) ∧ wx.cell? ⟨g6, k * 5 + 2, none⟩ = some (.int .i64 d.mn) ∧ wx.cell? ⟨g6, k * 5 + 3, none⟩ = some (.int .i64 d.mx) ∧ wx.cell? ⟨g6, k * 5 + 4, none⟩ = some (.bool false)) (by kernel_rfl) ⟨b0, b1, b2, b3, a4, d0, d1, d2, d3, d4⟩ (fun hHeld => ?_)
                        clear a4 b0 b1 b2 b3 d0 d1 d2 d3 d4
                        replace R7' := Lib.hid (show DRow w7.drew g9 fs.length (normU (k + 1) K) GK from R7'.out)
                        generalize w7.drew = V at *
                        refine wpAnyH_take (i := 0) (oi := ⟨some 89, .move (.tmp 11), 4, "ref.go:270", #[], none⟩) (v := ?vn14k0) rfl (by kernel_rfl) (by kernel_rfl) (by kernel_rfl) (fun _ _ _ h => h) (Or.inl ⟨by kernel_rfl, ?yn14k0⟩) (by assumption) ?rn14k0
                        case yn14k0 => intro w hSw; (try dsimp only at hSw); go_simp; try with_reducible rfl
                        try simp only [Act.put, List.setIfInBounds_toArray, List.set_cons_zero, List.set_cons_succ]
                        refine wpAnyH_take (i := 1) (oi := ⟨some 90, .move (.tmp 89), 4, "ref.go:270", #[⟨0, .data⟩], none⟩) (v := ?vn15k1) rfl (by kernel_rfl) (by kernel_rfl) (by kernel_rfl) (fun _ _ _ h => h) (Or.inl ⟨by kernel_rfl, ?yn15k1⟩) (by assumption) ?rn15k1
                        case yn15k1 => intro w hSw; (try dsimp only at hSw); go_simp; try with_reducible rfl
                        try simp only [Act.put, List.setIfInBounds_toArray, List.set_cons_zero, List.set_cons_succ]
                        refine wpAnyH_take (i := 2) (oi := ⟨some 91, .move (.tmp 9), 83, "ref.go:270", #[⟨1, .guard⟩], some (1, true)⟩) (v := ?vn16k2) rfl (by kernel_rfl) (by kernel_rfl) (by kernel_rfl) (fun _ _ _ h => h) (Or.inl ⟨by kernel_rfl, ?yn16k2⟩) (by assumption) ?rn16k2
                        case yn16k2 => intro w hSw; (try dsimp only at hSw); go_simp; try with_reducible rfl
                        try simp only [Act.put, List.setIfInBounds_toArray, List.set_cons_zero, List.set_cons_succ]
                        refine wpAnyH_take (i := 3) (oi := ⟨some 92, .move (.tmp 12), 3, "ref.go:270", #[⟨1, .guard⟩], some (1, true)⟩) (v := ?vn17k3) rfl (by kernel_rfl) (by kernel_rfl) (by kernel_rfl) (fun _ _ _ h => h) (Or.inl ⟨by kernel_rfl, ?yn17k3⟩) (by assumption) ?rn17k3
                        case yn17k3 => intro w hSw; (try dsimp only at hSw); go_simp; try with_reducible rfl
                        try simp only [Act.put, List.setIfInBounds_toArray, List.set_cons_zero, List.set_cons_succ]
                        refine wpAnyH_take (i := 4) (oi := ⟨some 93, .indexAddr 83 (.tmp 91) (.tmp 92), 0, "ref.go:270", #[⟨2, .data⟩, ⟨3, .data⟩, ⟨1, .guard⟩], some (1, true)⟩) (v := ?vn18k4) rfl (by kernel_rfl) (by kernel_rfl) (by kernel_rfl) (fun _ _ _ h => h) (Or.inl ⟨by kernel_rfl, ?yn18k4⟩) (by assumption) ?rn18k4
                        case yn18k4 => intro w hSw; (try dsimp only at hSw); go_simp; try with_reducible rfl
                        try simp only [Act.put, List.setIfInBounds_toArray, List.set_cons_zero, List.set_cons_succ]
                        refine wpAnyH_take (i := 5) (oi := ⟨some 94, .load 58 (.tmp 93), 58, "ref.go:270", #[⟨4, .data⟩, ⟨1, .guard⟩], some (1, true)⟩) (v := ?vn19k5) rfl (by kernel_rfl) (by kernel_rfl) (by kernel_rfl) (fun _ _ _ h => h) (Or.inl ⟨by kernel_rfl, ?yn19k5⟩) (by assumption) ?rn19k5
                        case yn19k5 => intro w hSw; (try dsimp only at hSw); go_simp; try with_reducible rfl
                        try simp only [Act.put, List.setIfInBounds_toArray, List.set_cons_zero, List.set_cons_succ]
                        refine wpAnyH_take (i := 6) (oi := ⟨some 95, .move (.tmp 6), 83, "ref.go:270", #[⟨1, .guard⟩], some (1, true)⟩) (v := ?vn20k6) rfl (by kernel_rfl) (by kernel_rfl) (by kernel_rfl) (fun _ _ _ h => h) (Or.inl ⟨by kernel_rfl, ?yn20k6⟩) (by assumption) ?rn20k6
                        case yn20k6 => intro w hSw; (try dsimp only at hSw); go_simp; try with_reducible rfl
                        try simp only [Act.put, List.setIfInBounds_toArray, List.set_cons_zero, List.set_cons_succ]
                        refine wpAnyH_take (i := 7) (oi := ⟨some 96, .move (.tmp 12), 3, "ref.go:270", #[⟨1, .guard⟩], some (1, true)⟩) (v := ?vn21k7) rfl (by kernel_rfl) (by kernel_rfl) (by kernel_rfl) (fun _ _ _ h => h) (Or.inl ⟨by kernel_rfl, ?yn21k7⟩) (by assumption) ?rn21k7
                        case yn21k7 => intro w hSw; (try dsimp only at hSw); go_simp; try with_reducible rfl
                        try simp only [Act.put, List.setIfInBounds_toArray, List.set_cons_zero, List.set_cons_succ]
                        refine wpAnyH_take (i := 8) (oi := ⟨some 97, .indexAddr 83 (.tmp 95) (.tmp 96), 0, "ref.go:270", #[⟨6, .data⟩, ⟨7, .data⟩, ⟨1, .guard⟩], some (1, true)⟩) (v := ?vn22k8) rfl (by kernel_rfl) (by kernel_rfl) (by kernel_rfl) (fun _ _ _ h => h) (Or.inl ⟨by kernel_rfl, ?yn22k8⟩) (by assumption) ?rn22k8
                        case yn22k8 => intro w hSw; (try dsimp only at hSw); go_simp; try with_reducible rfl
                        try simp only [Act.put, List.setIfInBounds_toArray, List.set_cons_zero, List.set_cons_succ]
                        refine wpAnyH_take (i := 9) (oi := ⟨some 98, .load 58 (.tmp 97), 58, "ref.go:270", #[⟨8, .data⟩, ⟨1, .guard⟩], some (1, true)⟩) (v := ?vn23k9) rfl (by kernel_rfl) (by kernel_rfl) (by kernel_rfl) (fun _ _ _ h => h) (Or.inl ⟨by kernel_rfl, ?yn23k9⟩) (by assumption) ?rn23k9
                        case yn23k9 => intro w hSw; (try dsimp only at hSw); go_simp; try with_reducible rfl
                        try simp only [Act.put, List.setIfInBounds_toArray, List.set_cons_zero, List.set_cons_succ]
                        refine wpAnyH_take (i := 10) (oi := ⟨some 99, .binOp .eql 58 (.tmp 94) (.tmp 98) 58, 4, "ref.go:270", #[⟨5, .data⟩, ⟨9, .data⟩, ⟨1, .guard⟩], some (1, true)⟩) (v := .bool b) rfl (by kernel_rfl) (by kernel_rfl) (by kernel_rfl) (fun _ _ _ h => h) (Or.inl ⟨by kernel_rfl, ?y10⟩) (by assumption) ?r10
                        case y10 =>
                          intro w hSw; (try dsimp only at hSw); go_simp
                          rw [← HBB.out]
                          by_cases h1 : (c.lo : Int) = d.lo <;> by_cases h2 : (c.hi : Int) = d.hi <;> by_cases h3 : c.mn = d.mn <;> by_cases h4 : c.mx = d.mx <;> simp [h1, h2, h3, h4]
                        try simp only [Act.put, List.setIfInBounds_toArray, List.set_cons_zero, List.set_cons_succ]
                        refine wpAnyH_take (i := 11) (oi := ⟨some 100, .pick (.tmp 90) (.tmp 99) (.const (Value.bool false)), 4, "ref.go:270", #[⟨1, .data⟩, ⟨10, .data⟩], none⟩) (v := ?vn24k11) rfl (by kernel_rfl) (by kernel_rfl) (by kernel_rfl) (fun _ _ _ h => h) (Or.inl ⟨by kernel_rfl, ?yn24k11⟩) (by assumption) ?rn24k11
                        case yn24k11 => intro w hSw; (try dsimp only at hSw); go_simp; try with_reducible rfl
                        try simp only [Act.put, List.setIfInBounds_toArray, List.set_cons_zero, List.set_cons_succ]
                        refine wpAnyH_take (i := 12) (oi := ⟨some 11, .assign (.tmp 100), 4, "ref.go:270", #[⟨11, .data⟩, ⟨1, .chain⟩, ⟨0, .phase⟩, ⟨1, .phase⟩, ⟨2, .phase⟩, ⟨3, .phase⟩, ⟨4, .phase⟩, ⟨5, .phase⟩, ⟨6, .phase⟩, ⟨7, .phase⟩, ⟨8, .phase⟩, ⟨9, .phase⟩, ⟨10, .phase⟩, ⟨11, .phase⟩], none⟩) (v := ?vn25k12) rfl (by kernel_rfl) (by kernel_rfl) (by kernel_rfl) (fun _ _ _ h => h) (Or.inl ⟨by kernel_rfl, ?yn25k12⟩) (by assumption) ?rn25k12
                        case yn25k12 => intro w hSw; (try dsimp only at hSw); go_simp; try with_reducible rfl
                        try simp only [Act.put, List.setIfInBounds_toArray, List.set_cons_zero, List.set_cons_succ]
                        refine wpAnyH_done (by kernel_rfl) ?_ _
                        clear hHeld
                        go_wp2_with fail
                        go_roundw
                        case rel => exact ⟨k + 1, by omega, by go_num, by rw [SU.out]; first | rfl | simp, ALL1.out, ⟨_, cap9, rfl, (fun h => by cases h), fun _ => ⟨g9, HG9.out, rfl, R7'.out⟩⟩, B28.out⟩
                        case measure => simp [intOf]; omega
                  · obtain rfl : k = fs.length := by omega
                    have GK0 := Lib.hid (show ∀ i, i < fs.length → G i = false from fun i hi => by
                      cases h : G i with
                      | false => rfl
                      | true => have := GM.out i h; rw [(HALL.out i hi).2] at this; cases this)
                    have STA := Lib.hid (show okAll fs = true ∧ (G = fun _ => false) ∧ DS rs (firstF fs) F from by
                      rcases ST.out with h | ⟨_, i, hi, h⟩
                      · exact h
                      · rw [GK0.out i hi] at h; cases h)
                    have NXT := Lib.hid (STA.out.2.2.next HRB.out (fun i hi => by rw [HK.out]; exact (HALL.out i hi).1))
                    rw [HK.out] at NXT
                    have SUI := Lib.hid (sameU_iff (K := K) (F := F) (n := fs.length))
                    cases hsu : sameU K F fs.length with
                    | false =>
                      rw [hsu] at SUI
                      clear hsu
                      have MS := Lib.hid (show mD w5 (.slice A9 fs.length cap9) fs.length < mD w2 (.slice A6 fs.length cap6) fs.length from by
                        have hns : ¬ sameB (normU fs.length K) F fs.length := fun h => by have := SUI.out.2 h; cases this
                        have hn : 0 < fs.length := by
                          rcases Nat.eq_zero_or_pos fs.length with h | h
                          · exact absurd (fun i hi => by omega) hns
                          · exact h
                        rw [NK.out.sum hn, NX6.out.sum hn]
                        refine sum_lt STA.out.2.2.2.2.1 NXT.out.1.2.2.1 (fun i => ?_) _ hns
                        exact nar_of_wb (NXT.out.1.2.2.1.bits i).1 (NXT.out.2 i) (HB2.out i).2 (NXT.out.1.2.2.1.bits i).2 (HB2.out i).1)
                      go_wp2_with fail
                      go_roundw
                      case rel =>
                        refine ⟨normU fs.length K, fun _ => false, (NK.out.mono BW2.out.size).congr (fun _ _ => rfl) (fun i hi => (HALL.out i hi).2), NXT.out.1.2.2.1.bits, .inl ⟨STA.out.1, rfl, NXT.out.1⟩, BW5.out⟩
                      case measure => exact MS.out
                    | true =>
                      rw [hsu] at SUI
                      clear hsu
                      have CLS := Lib.hid (STA.out.2.2.closed HRB.out (fun i hi => by rw [HK.out]; exact (HALL.out i hi).1) (fun i hi => by rw [← GE.out STA.out.2.1 i]; exact (HALL.out i hi).2) (by rw [HK.out]; exact SUI.out.1 rfl))
                      have FB := Lib.hid (show Fine F from STA.out.2.2.2.2.1)
                      have NX6' := Lib.hid (show NX w5 w.heap.size (.slice A6 fs.length cap6) fs.length F G from NX6.out.below B25.out)
                      clear NK SUI GM GE HALL NXT
                      go_wp2_with fail
                      go_loopw [13, 14] (fun v13 i wr => ∃ (k : Nat) (rl : List FamV), k ≤ fs.length ∧ i = .int .i64 k ∧ rl.length = k ∧ wr.ownsRow w5.heap.size 24 4 v13 rl.length (flatF rl) ∧ (∀ f ∈ rl, Ints wr f.A f.lo ∧ Ints wr f.B f.hi ∧ LD v13 f) ∧ (∀ i (h : i < rl.length), rl[i].lo = bi (F i).lo ∧ rl[i].hi = bi (F i).hi ∧ rl[i].mn = (F i).mn ∧ rl[i].mx = (F i).mx) ∧ Below w5.heap.size w5 wr) (fun _ i _ => fs.length - (intOf i).toNat)
                      case atStart => exact ⟨0, [], Nat.zero_le _, rfl, rfl, World.ownsRow_nil _ _ _ _, (fun f hf => by cases hf), fun i h => absurd h (Nat.not_lt_zero _), Below.refl _ _⟩
                      case round =>
                        obtain ⟨k, rl, hk, rfl, hlen, hown, hI, hE, hbw⟩ := hrel
                        obtain ⟨w6, rfl⟩ : ∃ x, x = wr := ⟨_, rfl⟩
                        have LEN := Lib.hid hlen
                        have OW := Lib.hid hown
                        have HI := Lib.hid hI
                        have HE := Lib.hid hE
                        have B56 := Lib.hid hbw
                        have BW6 := Lib.hid (BW5.out.trans (hbw.mono BW5.out.size))
                        clear hlen hown hI hE hbw
                        by_cases hlt : k < fs.length
                        · obtain ⟨A6', cap6', hv6, hz6, hp6⟩ := NX6'.out
                          simp only [Value.slice.injEq, true_and] at hv6
                          obtain ⟨rfl, rfl⟩ := hv6
                          obtain ⟨g6, hg6, rfl, hr6⟩ := hp6 (by omega)
                          have R6 := Lib.hid (hr6.at (B56.out.block g6 hr6.lt))
                          clear hz6 hp6 hr6 hg6
                          have d0 : w6.cell? ⟨g6, k * 5, none⟩ = some (.int .u64 ((F k).lo : Int)) := R6.out.cell hlt 0 (by decide)
                          have d1 : w6.cell? ⟨g6, k * 5 + 1, none⟩ = some (.int .u64 ((F k).hi : Int)) := R6.out.cell hlt 1 (by decide)
                          have d2 : w6.cell? ⟨g6, k * 5 + 2, none⟩ = some (.int .i64 (F k).mn) := R6.out.cell hlt 2 (by decide)
                          have d3 : w6.cell? ⟨g6, k * 5 + 3, none⟩ = some (.int .i64 (F k).mx) := R6.out.cell hlt 3 (by decide)
                          have d4 : w6.cell? ⟨g6, k * 5 + 4, none⟩ = some (.bool false) := by rw [← GK0.out k hlt]; exact R6.out.cell hlt 4 (by decide)
                          have FK := Lib.hid (FB.out k)
                          have HEK := Lib.hid (show ∀ f : FamV, (f.lo = bi (F k).lo ∧ f.hi = bi (F k).hi ∧ f.mn = (F k).mn ∧ f.mx = (F k).mx) → ∀ i (h : i < (rl ++ [f]).length), (rl ++ [f])[i].lo = bi (F i).lo ∧ (rl ++ [f])[i].hi = bi (F i).hi ∧ (rl ++ [f])[i].mn = (F i).mn ∧ (rl ++ [f])[i].mx = (F i).mx from fun f hf i h => by
                            rw [List.length_append, List.length_singleton] at h
                            by_cases e : i < rl.length
                            · rw [List.getElem_append_left e]; exact HE.out i e
                            · obtain rfl : i = rl.length := by omega
                              have hl := LEN.out
                              simp only [List.getElem_append_right (Nat.le_refl _), Nat.sub_self, List.getElem_singleton]
                              rw [hl]; exact hf)
                          generalize F k = d at *
                          have OU := Lib.hid (rout_any d.lo d.hi d.mn d.mx w6 FK.out.1 FK.out.2.1)
                          have z1 : (k : Int) < (fs.length : Int) := by omega
                          have z2 : (0 : Int) ≤ (k : Int) := by omega
                          go_wp2_with (first | (go_at_call 35; refine OU.out.mono ?_; rintro e w7 ⟨⟨v, rfl, v1, v2, rfl, k1, k2, _⟩, hb⟩; have B67 := Lib.hid hb; have B57 := Lib.hid (B56.out.trans (hb.mono B56.out.size)); have OW7 := Lib.hid (owns_over OW.out hb); obtain ⟨G1, cp1, rfl, i1, j1⟩ := row_ints2 FK.out.1 k1; obtain ⟨G2, cp2, rfl, i2, j2⟩ := row_ints2 FK.out.2.1 k2; have I1 := Lib.hid i1; have I2 := Lib.hid i2; have J1 := Lib.hid j1; have J2 := Lib.hid j2; clear hb OU d0 d1 d2 d3 d4 k1 k2 i1 i2 j1 j2) | (at_builtin; refine wpList_append_fam2 (w0 := w7) rfl _ _ rfl w5.heap.size _ rl ⟨bi d.lo, bi d.hi, d.mn, d.mx, G1, G2, cp1, cp2⟩ (by go_simp) OW7.out 1 (by go_simp) (by have := LEN.out; omega) B57.out.size ?_; intro v' w' ho' hg' hat; have HO := Lib.hid ho'; have HAT := Lib.hid hat; have HGR := Lib.hid hg'; have HG := Lib.hid (Below.grown (B57.out.alloc B57.out.size _) hg' (Nat.le_trans B57.out.size (by simp)) (fun j e => (OW7.out.lt j e).1)); clear ho' hg' hat))
                          go_roundw
                          case rel =>
                            refine ⟨k + 1, rl ++ [⟨bi d.lo, bi d.hi, d.mn, d.mx, G1, G2, cp1, cp2⟩], by omega, by go_num, by rw [List.length_append, LEN.out]; rfl, HO.out, ?_, HEK.out _ ⟨rfl, rfl, rfl, rfl⟩, HG.out⟩
                            intro f hf
                            have al : ∀ A xs, Ints w7 A xs → Ints (w7.alloc (.cells #[famCell ⟨bi d.lo, bi d.hi, d.mn, d.mx, G1, G2, cp1, cp2⟩ 0, famCell ⟨bi d.lo, bi d.hi, d.mn, d.mx, G1, G2, cp1, cp2⟩ 1, famCell ⟨bi d.lo, bi d.hi, d.mn, d.mx, G1, G2, cp1, cp2⟩ 2, famCell ⟨bi d.lo, bi d.hi, d.mn, d.mx, G1, G2, cp1, cp2⟩ 3] 24)) A xs := fun A xs h => h.over ((Below.refl _ w7).alloc (Nat.le_refl _) _)
                            have fin : ∀ A xs, Ints w7 A xs → (0 < xs.length → ∀ b o, A = some ⟨b, o, none⟩ → Value.ownBlock u13 ≠ some b) → Ints _ A xs ∧ (0 < xs.length → ∀ b o, A = some ⟨b, o, none⟩ → Value.ownBlock _ ≠ some b) := fun A xs h hne => by
                              refine ⟨ints_grown (al A xs h) HGR.out hne, fun hp b o e => ?_⟩
                              obtain ⟨b', off, e', hb', _⟩ := h.2.2 hp
                              rw [e] at e'
                              cases e'
                              rcases HAT.out with h2 | h2
                              · rw [h2]; exact hne hp b o e
                              · rw [h2]; intro h3; injection h3; omega
                            rcases List.mem_append.1 hf with hf | hf
                            · obtain ⟨q1, q2, q3, q4⟩ := HI.out f hf
                              have r1 := fin f.A f.lo (q1.over B67.out) q3
                              have r2 := fin f.B f.hi (q2.over B67.out) q4
                              exact ⟨r1.1, r2.1, r1.2, r2.2⟩
                            · obtain rfl := List.mem_singleton.1 hf
                              have own : ∀ b, w6.heap.size ≤ b → Value.ownBlock u13 ≠ some b := fun b hb e => by
                                have := (OW.out.lt b e).2
                                omega
                              have r1 := fin G1 (bi d.lo) I1.out (fun _ b o e => own b (J1.out b o e))
                              have r2 := fin G2 (bi d.hi) I2.out (fun _ b o e => own b (J2.out b o e))
                              exact ⟨r1.1, r2.1, r1.2, r2.2⟩
                          case measure => simp [intOf]; omega
                        · obtain rfl : k = fs.length := by omega
                          obtain ⟨A', c', hu, hl4⟩ := fams_of_owns (by have := LEN.out; omega) OW.out (fun f hf => ⟨(HI.out f hf).1, (HI.out f hf).2.1⟩)
                          rw [LEN.out] at hu
                          subst hu
                          have FL := Lib.hid hl4
                          clear hl4
                          go_wp2_with fail
                          refine bodyPost_ret (v := .tuple #[.slice A' fs.length c', .int .i64 0]) (by simp [results, Tryd.results27, go_sem]) rfl ?_
                          exact ⟨.inr (.inr ⟨HV.out, STA.out.1, F, A', c', rl, STA.out.2.2, CLS.out, rfl, LEN.out, FL.out, HE.out⟩), BW6.out⟩
end Go.Proofs.YthakhdbakmlooaaDoor
