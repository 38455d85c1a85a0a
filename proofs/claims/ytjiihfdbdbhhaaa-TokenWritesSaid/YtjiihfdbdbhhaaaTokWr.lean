/-
  The law on the writing of tokens.
-/
import Derived.Test.YtjiihfdbdbhhaaaTokAl
import Derived.Deep.RegionHeld3
namespace Go.Proofs.Ytjiihfdbdbhhaaa
open Go.RowKit T

theorem ArgTk.below {w w' : World} {A : Option Addr} {ks : List (ByteArray × ByteArray × Int)} (h : ArgTk w A ks) (hb : Below w.heap.size w w') : ArgTk w' A ks := by
  intro h0
  obtain ⟨b, off, hA, hlt, hc⟩ := h h0
  refine ⟨b, off, hA, by have := hb.size; omega, fun j hj => ?_⟩
  obtain ⟨c0, c1, c2⟩ := hc j hj
  exact ⟨(hb.cell (p := ⟨b, _, none⟩) hlt).trans c0, (hb.cell (p := ⟨b, _, none⟩) hlt).trans c1, (hb.cell (p := ⟨b, _, none⟩) hlt).trans c2⟩
def ktOf (ks : List (ByteArray × ByteArray × Int)) : List (ByteArray × ByteArray) := ks.map fun t => (t.1, t.2.1)
theorem ArgTk.al {w : World} {A : Option Addr} {ks : List (ByteArray × ByteArray × Int)} (h : ArgTk w A ks) : AlTk w A (ktOf ks) := by
  intro h0
  have hl : (ktOf ks).length = ks.length := by simp [ktOf]
  obtain ⟨b, off, hA, _, hc⟩ := h (by omega)
  refine ⟨b, off, hA, fun j hj => ?_⟩
  obtain ⟨c0, c1, _⟩ := hc j (by omega)
  simp only [ktOf, List.getElem_map]
  exact ⟨c0, c1⟩
theorem RdTk.al {w : World} {A : Option Addr} {ts : List Tk} {kt : List (ByteArray × ByteArray)} (h : RdTk w A ts) (hk : ts.map (fun t => (t.kind, t.text)) = kt.map (fun t => (t.1.data.toList, t.2.data.toList))) : AlTk w A kt := by
  have hl : ts.length = kt.length := by have := congrArg List.length hk; simpa using this
  intro h0
  obtain ⟨g, hA, hc⟩ := h (by omega)
  refine ⟨g, 0, hA, fun j hj => ?_⟩
  obtain ⟨t0, t1, _⟩ := tk_cell ts j (by omega)
  have e : ((ts.map (fun t => (t.kind, t.text)))[j]'(by simpa using (by omega : j < ts.length))) = (kt.map (fun t => (t.1.data.toList, t.2.data.toList)))[j]'(by simpa using hj) := by
    congr 1
  simp only [List.getElem_map, Prod.mk.injEq] at e
  rw [Nat.zero_add]
  refine ⟨(hc _ _ t0).trans ?_, (hc _ _ t1).trans ?_⟩
  · rw [e.1, ← mk_list (rfl : kt[j].1.data.toList = kt[j].1.data.toList)]
  · rw [e.2, ← mk_list (rfl : kt[j].2.data.toList = kt[j].2.data.toList)]

set_option maxHeartbeats 4000000 in
set_option maxRecDepth 100000 in
theorem TokenWrites_any (A : Option Addr) (n c : Nat) (ks : List (ByteArray × ByteArray × Int)) (w : World) (hn : ks.length = n) (hm : n ≤ maxLen) (h : ArgTk w A ks) :
    Calls Try.prog 4 #[.slice A n c] w fun e w' => e = .returned (.bool true) ∧ Below w.heap.size w w' := by
  have SC := short_any A n c ks w hn hm h
  rcases hsh : shortB ks n with _ | _
  · rw [hsh] at SC
    have SC := Lib.hid SC
    clear hsh
    go_enter Try.func4, Try.ntmps4
    go_wp2_with fail
    refine SC.out.mono ?_
    rintro e w1 ⟨rfl, hb1⟩
    go_wp2_with fail
    refine (awake_any _).mono ?_
    rintro e w2 ⟨rfl, hb2⟩
    go_wp2_with fail
    go_ret
    exact ⟨rfl, hb1.trans (hb2.mono hb1.size)⟩
  · rw [hsh] at SC
    have SC := Lib.hid SC
    have hsm : Small ks := by
      simp only [shortB, Bool.and_eq_true, decide_eq_true_eq, List.all_eq_true] at hsh
      exact ⟨by omega, hsh.1⟩
    have hn3 : n ≤ 300 := by rw [← hn]; exact hsm.1
    have HN := Lib.hid hn
    clear hsh hn hm
    go_enter Try.func4, Try.ntmps4
    go_wp2_with fail
    refine SC.out.mono ?_
    rintro e w1 ⟨rfl, hb1⟩
    go_wp2_with fail
    go_loopw [20] (fun i wr => ∃ k : Nat, k ≤ n ∧ i = .int .i64 k ∧ Below w.heap.size w wr) (fun i _ => n - (intOf i).toNat)
    case atStart => exact ⟨0, Nat.zero_le _, rfl, hb1⟩
    case round =>
      obtain ⟨k, hk, rfl, hb⟩ := hrel
      have hsz := hb.size
      by_cases hlt : k < n
      · obtain ⟨b, off, rfl, hab, hc⟩ := h (by rw [HN.out]; omega)
        have hlk : k < ks.length := by rw [HN.out]; exact hlt
        obtain ⟨c0, c1, c2⟩ := hc k hlk
        have c0 := (hb.cell (p := ⟨b, off + k * 3, none⟩) hab).trans c0
        have c1 := (hb.cell (p := ⟨b, off + k * 3 + 1, none⟩) hab).trans c1
        have c2 := (hb.cell (p := ⟨b, off + k * 3 + 2, none⟩) hab).trans c2
        have h400 := hsm.2 ks[k] (List.getElem_mem _)
        clear hc
        generalize ks[k] = tk at *
        clear hlk
        have TC1 := fun wx => Text_any tk.1 tk.2.1 tk.2.2 wx (by omega)
        have TC2 := fun wx => Text_r_any tk.1 tk.2.1 tk.2.2 wx (by omega)
        have VC1 := Lib.hid (fun wx => Valid_any tk.1 tk.2.1 tk.2.2 wx (by omega))
        have VC2 := Lib.hid (fun wx => Valid_r_any tk.1 tk.2.1 tk.2.2 wx (by omega))
        have hbA : Below w.heap.size w (wr.alloc (.cells #[.string tk.1, .string tk.2.1, .int .i64 tk.2.2] 33)) := hb.alloc hsz _
        obtain ⟨sx, ec, hx⟩ : ∃ (sx : ByteArray) (ec : Int), textV tk.1 tk.2.1 = .tuple #[.string sx, .int .i64 ec] := by
          rcases hv : okOf tk with _ | _
          · rw [textV_no hv]; exact ⟨_, _, rfl⟩
          · rw [textV_ok hv]; exact ⟨_, _, rfl⟩
        rw [hx] at TC1 TC2
        have TC1 := Lib.hid TC1
        have TC2 := Lib.hid TC2
        clear hx
        go_wp2_with fail
        refine (TC1.out _).mono ?_
        rintro e w2 ⟨rfl, hb2⟩
        have d0 : w2.cell? ⟨wr.heap.size, 0, none⟩ = some (.string tk.1) := (hb2.cell (p := ⟨wr.heap.size, 0, none⟩) (by simp)).trans (by simp [go_sem])
        have d1 : w2.cell? ⟨wr.heap.size, 1, none⟩ = some (.string tk.2.1) := (hb2.cell (p := ⟨wr.heap.size, 1, none⟩) (by simp)).trans (by simp [go_sem])
        have d2 : w2.cell? ⟨wr.heap.size, 2, none⟩ = some (.int .i64 tk.2.2) := (hb2.cell (p := ⟨wr.heap.size, 2, none⟩) (by simp)).trans (by simp [go_sem])
        have hx2 : wr.heap.size < w2.heap.size := by have := hb2.size; simp at this; omega
        have hbB := hbA.trans (hb2.mono (by simp; omega))
        clear hb2
        go_wp2_with fail
        refine (TC2.out _).mono ?_
        rintro e w3 ⟨rfl, hb3⟩
        have d0 := (hb3.cell (p := ⟨wr.heap.size, 0, none⟩) hx2).trans d0
        have d1 := (hb3.cell (p := ⟨wr.heap.size, 1, none⟩) hx2).trans d1
        have d2 := (hb3.cell (p := ⟨wr.heap.size, 2, none⟩) hx2).trans d2
        have hx3 : wr.heap.size < w3.heap.size := by have := hb3.size; omega
        have hbC := hbB.trans (hb3.mono (by omega))
        clear hb3
        have VB1 : ∀ wx, (wx.cell? ⟨wr.heap.size, 0, none⟩ = some (.string tk.1) ∧ wx.cell? ⟨wr.heap.size, 1, none⟩ = some (.string tk.2.1) ∧ wx.cell? ⟨wr.heap.size, 2, none⟩ = some (.int .i64 tk.2.2) ∧ wr.heap.size < wx.heap.size ∧ Below w.heap.size w wx) →
          Calls Try.prog 18 #[.agg #[.string tk.1, .string tk.2.1, .int .i64 tk.2.2]] wx fun e w' => e = .returned (.bool (validB tk.1.toList tk.2.1)) ∧ (w'.cell? ⟨wr.heap.size, 0, none⟩ = some (.string tk.1) ∧ w'.cell? ⟨wr.heap.size, 1, none⟩ = some (.string tk.2.1) ∧ w'.cell? ⟨wr.heap.size, 2, none⟩ = some (.int .i64 tk.2.2) ∧ wr.heap.size < w'.heap.size ∧ Below w.heap.size w w') := by
          rintro wx ⟨a0, a1, a2, a3, a4⟩
          refine (VC1.out wx).mono ?_
          rintro e w4 ⟨rfl, hb4⟩
          exact ⟨rfl, (hb4.cell (p := ⟨wr.heap.size, 0, none⟩) a3).trans a0, (hb4.cell (p := ⟨wr.heap.size, 1, none⟩) a3).trans a1, (hb4.cell (p := ⟨wr.heap.size, 2, none⟩) a3).trans a2, by have := hb4.size; omega, a4.trans (hb4.mono a4.size)⟩
        have VB2 : ∀ wx, (wx.cell? ⟨wr.heap.size, 0, none⟩ = some (.string tk.1) ∧ wx.cell? ⟨wr.heap.size, 1, none⟩ = some (.string tk.2.1) ∧ wx.cell? ⟨wr.heap.size, 2, none⟩ = some (.int .i64 tk.2.2) ∧ wr.heap.size < wx.heap.size ∧ Below w.heap.size w wx) →
          Calls Try.prog 19 #[.agg #[.string tk.1, .string tk.2.1, .int .i64 tk.2.2]] wx fun e w' => e = .returned (.bool (validB tk.1.toList tk.2.1)) ∧ (w'.cell? ⟨wr.heap.size, 0, none⟩ = some (.string tk.1) ∧ w'.cell? ⟨wr.heap.size, 1, none⟩ = some (.string tk.2.1) ∧ w'.cell? ⟨wr.heap.size, 2, none⟩ = some (.int .i64 tk.2.2) ∧ wr.heap.size < w'.heap.size ∧ Below w.heap.size w w') := by
          rintro wx ⟨a0, a1, a2, a3, a4⟩
          refine (VC2.out wx).mono ?_
          rintro e w4 ⟨rfl, hb4⟩
          exact ⟨rfl, (hb4.cell (p := ⟨wr.heap.size, 0, none⟩) a3).trans a0, (hb4.cell (p := ⟨wr.heap.size, 1, none⟩) a3).trans a1, (hb4.cell (p := ⟨wr.heap.size, 2, none⟩) a3).trans a2, by have := hb4.size; omega, a4.trans (hb4.mono a4.size)⟩
        generalize validB tk.1.toList tk.2.1 = vb at VB1 VB2
        have hS : w3.cell? ⟨wr.heap.size, 0, none⟩ = some (.string tk.1) ∧ w3.cell? ⟨wr.heap.size, 1, none⟩ = some (.string tk.2.1) ∧ w3.cell? ⟨wr.heap.size, 2, none⟩ = some (.int .i64 tk.2.2) ∧ wr.heap.size < w3.heap.size ∧ Below w.heap.size w w3 := ⟨d0, d1, d2, hx3, hbC⟩
        clear TC1 TC2 VC1 VC2 hbA hbB SC
        go_wp2_with fail
        go_region_held3 (fun wx => wx.cell? ⟨wr.heap.size, 0, none⟩ = some (.string tk.1) ∧ wx.cell? ⟨wr.heap.size, 1, none⟩ = some (.string tk.2.1) ∧ wx.cell? ⟨wr.heap.size, 2, none⟩ = some (.int .i64 tk.2.2) ∧ wr.heap.size < wx.heap.size ∧ Below w.heap.size w wx) (first | assumption | exact ⟨d0, d1, d2, hx3, hbC.drew⟩) (first | (go_at_call 18; refine (VB1 _ (by assumption)).mono ?_; rintro e wy ⟨rfl, hS2⟩) | (go_at_call 19; refine (VB2 _ (by assumption)).mono ?_; rintro e wy ⟨rfl, hS2⟩))
        all_goals clear VB1 VB2 TC1 TC2 hS
        all_goals go_wp2_with fail
        all_goals go_roundw
        case rel => exact ⟨k + 1, by omega, by go_num, hS2.2.2.2.2⟩
        case measure => simp [intOf]; omega
      · clear SC
        have JC1 := fun wx hh => Join_any A n c ks wx HN.out hsm hh
        have JC2 := fun wx hh => Join_r_any A n c ks wx HN.out hsm hh
        obtain ⟨sx, ec, hx, hcase⟩ : ∃ (sx : ByteArray) (ec : Int), joinV ks = .tuple #[.string sx, .int .i64 ec] ∧ (ec = 10 ∨ ec = 0 ∧ ks.all okOf = true ∧ sx.data.toList = joinL ks) := by
          rcases hv : ks.all okOf with _ | _
          · exact ⟨_, _, by unfold joinV; rw [hv]; rfl, .inl rfl⟩
          · exact ⟨⟨(joinL ks).toArray⟩, 0, by unfold joinV; rw [hv]; rfl, .inr ⟨rfl, rfl, rfl⟩⟩
        rw [hx] at JC1 JC2
        have JC1 := Lib.hid JC1
        have JC2 := Lib.hid JC2
        clear hx
        have hfin : ec = 10 ∨ (ec = 0 ∧ 20000 < sx.size) ∨ (ec = 0 ∧ sx.size ≤ 20000 ∧ ks.all okOf = true ∧ sx.data.toList = joinL ks) := by
          rcases hcase with h' | ⟨h', hall, hl⟩
          · exact .inl h'
          · by_cases hz : sx.size ≤ 20000
            · exact .inr (.inr ⟨h', hz, hall, hl⟩)
            · exact .inr (.inl ⟨h', by omega⟩)
        have AA := Lib.hid (fun wx (hh : Below w.heap.size w wx) => h.below hh)
        clear h hcase
        go_wp2_with fail
        refine (JC1.out _ (AA.out _ hb)).mono ?_
        rintro e w2 ⟨rfl, hb2⟩
        have hbB := hb.trans (hb2.mono hsz)
        clear hb2
        rcases hfin with rfl | ⟨rfl, hz⟩ | ⟨rfl, hz, hall, hl⟩
        · go_wp2_with fail
          refine (JC2.out _ (AA.out _ hbB)).mono ?_
          rintro e w3 ⟨rfl, hb3⟩
          have hbC := hbB.trans (hb3.mono hbB.size)
          clear hb3
          go_wp2_with fail
          refine (awake_any _).mono ?_
          rintro e w4 ⟨rfl, hb4⟩
          go_wp2_with fail
          go_ret
          exact ⟨rfl, hbC.trans (hb4.mono hbC.size)⟩
        · have z1 : (20000 : Int) < (sx.size : Int) := by omega
          go_wp2_with fail
          refine (JC2.out _ (AA.out _ hbB)).mono ?_
          rintro e w3 ⟨rfl, hb3⟩
          have hbC := hbB.trans (hb3.mono hbB.size)
          clear hb3
          go_wp2_with fail
          refine (awake_any _).mono ?_
          rintro e w4 ⟨rfl, hb4⟩
          go_wp2_with fail
          go_ret
          exact ⟨rfl, hbC.trans (hb4.mono hbC.size)⟩
        · have z1 : ¬ (20000 : Int) < (sx.size : Int) := by omega
          have TK := fun wx => Tokens_any sx wx (by unfold maxLen; omega)
          obtain ⟨ts, hts, hmap⟩ := scanT_join hall (by rw [← hl]; simpa using hz)
          rw [← hl] at hts
          unfold TokensPost at TK
          rw [hts] at TK
          simp only [] at TK
          have TK := Lib.hid TK
          have hlen : ts.length = n := by rw [← HN.out]; simpa using congrArg List.length hmap
          have HM := Lib.hid hmap
          clear hts hmap hall hl
          go_wp2_with fail
          refine (JC2.out _ (AA.out _ hbB)).mono ?_
          rintro e w3 ⟨rfl, hb3⟩
          have hbC := hbB.trans (hb3.mono hbB.size)
          clear hb3
          go_wp2_with fail
          refine (TK.out _).mono ?_
          rintro e w4 ⟨A1, cap, rfl, ho, hb4⟩
          have R1 := RdTk.al (kt := ktOf ks) (RdTk.of ho) (by rw [HM.out]; simp [ktOf, Lib.toList_data])
          have hbD := hbC.trans (hb4.mono hbC.size)
          clear ho hb4
          rw [hlen]
          have AL := Lib.hid (Alike_any A1 A cap c n (ktOf ks) w4 (by simpa [ktOf] using HN.out) (by omega) R1 (AA.out _ hbD).al)
          clear R1
          go_wp2_with fail
          refine AL.out.mono ?_
          rintro e w5 ⟨rfl, d, rfl⟩
          go_wp2_with fail
          refine (awake_any _).mono ?_
          rintro e w6 ⟨rfl, hb6⟩
          go_wp2_with fail
          go_ret
          exact ⟨rfl, (below_drewN hbD d).trans (hb6.mono (below_drewN hbD d).size)⟩
end Go.Proofs.Ytjiihfdbdbhhaaa
