/-
  The normal form: the document's.
-/
import Derived.Test.YtcbjkclajkjicaaGreatDoorFaA
namespace Go.Proofs.YtcbjkclajkjicaaGreatDoor
set_option linter.unusedSimpArgs false
open Go Go.RowKit Go.Shelf Go.Ev

/-- a family in sets as it lies -/
def FmC (w : World) (g l h : Nat) (m x : Int) (bad : Bool) : Prop := w.heap[g]? = some (.cells #[.int .u64 l, .int .u64 h, .int .i64 m, .int .i64 x, .bool bad] 65 (0, 0))
theorem FmC.facts {w : World} {g l h : Nat} {m x : Int} {bad : Bool} (k : FmC w g l h m x bad) : w.cell? ⟨g, 0, none⟩ = some (.int .u64 l) ∧ w.cell? ⟨g, 1, none⟩ = some (.int .u64 h) ∧ w.cell? ⟨g, 2, none⟩ = some (.int .i64 m) ∧ w.cell? ⟨g, 3, none⟩ = some (.int .i64 x) ∧ w.cell? ⟨g, 4, none⟩ = some (.bool bad) ∧ ∀ o, w.frozen? ⟨g, o, none⟩ = false := by
  unfold FmC at k
  refine ⟨?_, ?_, ?_, ?_, ?_, fun o => by simp [World.frozen?, k]⟩ <;> (simp only [World.cell?, k]; rfl)
theorem FmC.zero {w : World} {g : Nat} (k : w.heap[g]? = some (.cells #[.int .u64 0, .int .u64 0, .int .i64 0, .int .i64 0, .bool false] 65 (0, 0))) : w.cell? ⟨g, 0, none⟩ = some (.int .u64 0) ∧ w.cell? ⟨g, 1, none⟩ = some (.int .u64 0) ∧ w.cell? ⟨g, 2, none⟩ = some (.int .i64 0) ∧ w.cell? ⟨g, 3, none⟩ = some (.int .i64 0) ∧ w.cell? ⟨g, 4, none⟩ = some (.bool false) ∧ ∀ o, w.frozen? ⟨g, o, none⟩ = false := by
  refine ⟨?_, ?_, ?_, ?_, ?_, fun o => by simp [World.frozen?, k]⟩ <;> (simp only [World.cell?, k]; rfl)
theorem FmC.at {w w' : World} {g l h : Nat} {m x : Int} {bad : Bool} (k : FmC w g l h m x bad) (e : w'.heap[g]? = w.heap[g]?) : FmC w' g l h m x bad := e.trans k
theorem FmC.put {w : World} {g : Nat} {a b c d e : Value} (k : w.heap[g]? = some (.cells #[a, b, c, d, e] 65 (0, 0))) (l h : Nat) (m x : Int) (bad : Bool) :
    FmC (((((w.setCell ⟨g, 0, none⟩ (.int .u64 l)).setCell ⟨g, 1, none⟩ (.int .u64 h)).setCell ⟨g, 2, none⟩ (.int .i64 m)).setCell ⟨g, 3, none⟩ (.int .i64 x)).setCell ⟨g, 4, none⟩ (.bool bad)) g l h m x bad ∧
    Only g w (((((w.setCell ⟨g, 0, none⟩ (.int .u64 l)).setCell ⟨g, 1, none⟩ (.int .u64 h)).setCell ⟨g, 2, none⟩ (.int .i64 m)).setCell ⟨g, 3, none⟩ (.int .i64 x)).setCell ⟨g, 4, none⟩ (.bool bad)) := by
  have h0 := heap_setCell_same _ g 0 _ _ (.int .u64 l) k
  have h1 := heap_setCell_same _ g 1 _ _ (.int .u64 h) h0
  have h2 := heap_setCell_same _ g 2 _ _ (.int .i64 m) h1
  have h3 := heap_setCell_same _ g 3 _ _ (.int .i64 x) h2
  have h4 := heap_setCell_same _ g 4 _ _ (.bool bad) h3
  exact ⟨h4, ((((Only.set _ _ _).trans (Only.set _ _ _)).trans (Only.set _ _ _)).trans (Only.set _ _ _)).trans (Only.set _ _ _)⟩
/-- the document's normal form, in words -/
def RNorm (L H : Nat) (mn mx : Int) (w : World) (e : Ending) (w' : World) : Prop :=
  e = .returned (.agg (if okN L H mn mx = true then #[.int .u64 (nlo L H mn : Nat), .int .u64 (nhi L H mn mx : Nat), .int .i64 (nmn L mn), .int .i64 (nmx H mx), .bool false] else #[.int .u64 0, .int .u64 0, .int .i64 0, .int .i64 0, .bool true])) ∧ Below w.heap.size w w'
/-- where the loop stands -/
def AtN (L H : Nat) (mn mx : Int) (l h : Nat) (m x : Int) : Prop := (l = L ∧ h = H ∧ m = mn ∧ x = mx) ∨ (okN L H mn mx = true ∧ l = nlo L H mn ∧ h = nhi L H mn mx ∧ m = nmn L mn ∧ x = nmx H mx)
noncomputable def togo (L H : Nat) (mn mx : Int) (b : Nat) (W : World) : Nat := @ite Nat (W.heap[b]? = some (.cells #[.int .u64 L, .int .u64 H, .int .i64 mn, .int .i64 mx, .bool false] 65 (0, 0))) (Classical.propDecidable _) 1 0
theorem AtN.lt {L H l h : Nat} {mn mx m x : Int} (a : AtN L H mn mx l h m x) (hL : L < 18446744073709551616) (hH : H < 18446744073709551616) : l < 18446744073709551616 ∧ h < 18446744073709551616 := by
  rcases a with ⟨rfl, rfl, _, _⟩ | ⟨_, rfl, rfl, _, _⟩
  · exact ⟨hL, hH⟩
  · exact ⟨nlo_lt hL hH, nhi_lt hL hH⟩
theorem AtN.ok {L H l h : Nat} {mn mx m x : Int} (a : AtN L H mn mx l h m x) (hL : L < 18446744073709551616) (hH : H < 18446744073709551616) : okN l h m x = okN L H mn mx := by
  rcases a with ⟨rfl, rfl, rfl, rfl⟩ | ⟨k, rfl, rfl, rfl, rfl⟩
  · rfl
  · rw [k]; exact (again hL hH k).1
theorem AtN.step {L H l h : Nat} {mn mx m x : Int} (a : AtN L H mn mx l h m x) (hL : L < 18446744073709551616) (hH : H < 18446744073709551616) :
    nlo l h m = nlo L H mn ∧ nhi l h m x = nhi L H mn mx ∧ nmn l m = nmn L mn ∧ nmx h x = nmx H mx := by
  rcases a with ⟨rfl, rfl, rfl, rfl⟩ | ⟨k, rfl, rfl, rfl, rfl⟩
  · exact ⟨rfl, rfl, rfl, rfl⟩
  · obtain ⟨_, a1, a2, a3, a4⟩ := again hL hH k
    exact ⟨a3, a4, a1, a2⟩
theorem togo_one {W : World} {b L H : Nat} {mn mx : Int} (k : FmC W b L H mn mx false) : togo L H mn mx b W = 1 := if_pos k
theorem togo_zero {W : World} {b L H l h : Nat} {mn mx m x : Int} (k : FmC W b l h m x false) (ne : ¬ (l = L ∧ h = H ∧ m = mn ∧ x = mx)) : togo L H mn mx b W = 0 := if_neg fun e => by
  unfold FmC at k
  rw [k] at e
  refine ne ?_
  simp only [Option.some.injEq, Obj.cells.injEq, Array.mk.injEq, List.cons.injEq, Value.int.injEq, true_and, and_true] at e
  refine ⟨by omega, by omega, e.2.2.1, e.2.2.2⟩
theorem round_end {W wr : World} {b L H l h l1 h1 : Nat} {mn mx m x M X : Int} (a : AtN L H mn mx l h m x) (hL : L < 18446744073709551616) (hH : H < 18446744073709551616) (hk : okN L H mn mx = true)
    (n1 : nlo l h m = l1) (n2 : nhi l h m x = h1) (n3 : nmn l m = M) (n4 : nmx h x = X) (ne : ¬ (l1 = l ∧ h1 = h ∧ M = m ∧ X = x)) (fm : FmC wr b l h m x false) (fw : FmC W b l1 h1 M X false) :
    AtN L H mn mx l1 h1 M X ∧ togo L H mn mx b W < togo L H mn mx b wr := by
  obtain ⟨s1, s2, s3, s4⟩ := a.step hL hH
  rw [n1] at s1; rw [n2] at s2; rw [n3] at s3; rw [n4] at s4
  refine ⟨Or.inr ⟨hk, s1, s2, s3, s4⟩, ?_⟩
  rcases a with ⟨rfl, rfl, rfl, rfl⟩ | ⟨k, e1, e2, e3, e4⟩
  · rw [togo_one fm, togo_zero fw ne]; exact Nat.one_pos
  · exact absurd ⟨by rw [s1, e1], by rw [s2, e2], by rw [s3, e3], by rw [s4, e4]⟩ ne
def zeroC (W : World) (b : Nat) : Prop := W.heap[b]? = some (.cells #[.int .u64 0, .int .u64 0, .int .i64 0, .int .i64 0, .bool false] 65 (0, 0))
set_option maxRecDepth 100000 in
set_option maxHeartbeats 8000000 in
theorem rnormal_any (L H : Nat) (mn mx : Int) (w : World) (hL : L < 18446744073709551616) (hH : H < 18446744073709551616) :
    Calls Tryz.prog 33 #[.agg #[.int .u64 L, .int .u64 H, .int .i64 mn, .int .i64 mx, .bool false]] w (RNorm L H mn mx w) := by
  have HL := Lib.hid hL
  have HH := Lib.hid hH
  clear hL hH
  go_enter Tryz.func33, Tryz.ntmps33
  go_wp2_with fail
  go_loopw [3] (fun _ wr => ∃ (l h : Nat) (m x : Int), AtN L H mn mx l h m x ∧ FmC wr w.heap.size l h m x false ∧ zeroC wr (w.heap.size + 1) ∧ Below w.heap.size w wr) (fun _ wr => togo L H mn mx w.heap.size wr)
  case atStart =>
    exact ⟨L, H, mn, mx, Or.inl ⟨rfl, rfl, rfl, rfl⟩, heap_alloc2_old w (.cells #[.int .u64 L, .int .u64 H, .int .i64 mn, .int .i64 mx, .bool false] 65) _, heap_alloc2_new w _ (.cells #[.int .u64 0, .int .u64 0, .int .i64 0, .int .i64 0, .bool false] 65), ((Below.refl _ w).alloc (Nat.le_refl _) _).alloc (by simp) _⟩
  case round =>
    obtain ⟨l, h, m, x, hat, fm, zc, bw⟩ := hrel
    obtain ⟨hl, hh⟩ := hat.lt HL.out HH.out
    obtain ⟨q0, q1, q2, q3, q4, fz⟩ := fm.facts
    have AT := Lib.hid hat
    have FM := Lib.hid fm
    have ZC := Lib.hid zc
    have BW := Lib.hid bw
    have hsz : w.heap.size + 1 < wr.heap.size := by have := ZC.out; unfold zeroC at this; exact (Array.getElem?_eq_some_iff.1 this).1
    clear hat fm zc bw
    have SL := Lib.hid (fun w1 => rsize_any l w1 hl)
    have SH := Lib.hid (fun w1 => rsize_any h w1 hh)
    have AN := Lib.hid (show (bits .andNot .u64 (l : Int) (h : Int) == 0) = decide (sub64 l h = 0) from by rw [show bits .andNot .u64 (l : Int) (h : Int) = ((sub64 l h : Nat) : Int) from andNot_u64 l h hl hh, Bool.eq_iff_iff, beq_iff_eq, decide_eq_true_eq]; omega)
    have HLL := Lib.hid hl
    have HHH := Lib.hid hh
    clear hl hh
    go_wp2_with fail
    clear q0 q1 q2 q3 q4 fz
    have v0 := heap_alloc_new wr (.cells #[.int .u64 l, .int .u64 h, .int .i64 m, .int .i64 x, .bool false] 65)
    have VB := Lib.hid (show Below wr.heap.size wr (wr.alloc (.cells #[.int .u64 l, .int .u64 h, .int .i64 m, .int .i64 x, .bool false] 65)) from (Below.refl _ wr).alloc (Nat.le_refl _) _)
    have hvs : (wr.alloc (.cells #[.int .u64 l, .int .u64 h, .int .i64 m, .int .i64 x, .bool false] 65)).heap.size = wr.heap.size + 1 := by simp
    generalize hV1 : wr.alloc (.cells #[.int .u64 l, .int .u64 h, .int .i64 m, .int .i64 x, .bool false] 65) = V1 at *
    obtain ⟨g, hg⟩ : ∃ g, wr.heap.size = g := ⟨_, rfl⟩
    have V0 := Lib.hid (show FmC V1 g l h m x false from by rw [← hg]; exact v0)
    clear v0 hV1
    rw [hg] at hvs VB hsz ⊢
    have FA := Lib.hid (fun (wx : World) (m' x' : Int) (k : FmC wx g l h m' x' false) => (show (fun (wx : World) => wx.cell? ⟨g, 0, none⟩ = some (.int .u64 l) ∧ wx.cell? ⟨g, 1, none⟩ = some (.int .u64 h)) wx from ⟨k.facts.1, k.facts.2.1⟩))
    go_cut [] from 5 to 18 (fun wx => FmC wx g l h (nmn l m) (nmx h x) false ∧ Below g V1 wx)
    case first =>
      have BV := Lib.hid ((Below.refl (g + 1) V1).drew)
      have hv2 : g + 1 ≤ V1.drew.heap.size := by simp only [World.drew]; omega
      have FW := Lib.hid (show FmC V1.drew g l h m x false from V0.out)
      have S0 := FA.out _ _ _ FW.out
      refine wp_region_held_drew (S := fun (wx : World) => wx.cell? ⟨g, 0, none⟩ = some (.int .u64 l) ∧ wx.cell? ⟨g, 1, none⟩ = some (.int .u64 h)) (by kernel_rfl) S0 (fun hHeld => ?_)
      clear S0
      generalize V1.drew = V at *
      have MXE := Lib.hid (show (if m < ((ones l : Nat) : Int) then ((ones l : Nat) : Int) else m) = nmn l m from by unfold nmn; split <;> omega)
      have MNE := Lib.hid (show (if ((ones h : Nat) : Int) < x then ((ones h : Nat) : Int) else x) = nmx h x from by unfold nmx; split <;> omega)
      refine wpAnyH_take (i := 0) (oi := { dst := some 5, op := Op.fieldAddr 65 (Operand.tmp 3) 2, type := 0, pos := "ref.go:74", after := #[], guard := none }) (v := ?vn1k0) rfl (by kernel_rfl) (by kernel_rfl) (by kernel_rfl) (fun _ _ _ h => h) (Or.inl ⟨by kernel_rfl, ?yn1k0⟩) (by assumption) ?rn1k0
      case yn1k0 => intro w hSw; (try dsimp only at hSw); go_simp; try with_reducible rfl
      try simp only [Act.put, List.setIfInBounds_toArray, List.set_cons_zero, List.set_cons_succ]
      refine wpAnyH_take (i := 2) (oi := { dst := some 7, op := Op.fieldAddr 65 (Operand.tmp 3) 0, type := 0, pos := "ref.go:74", after := #[], guard := none }) (v := ?vn2k2) rfl (by kernel_rfl) (by kernel_rfl) (by kernel_rfl) (fun _ _ _ h => h) (Or.inl ⟨by kernel_rfl, ?yn2k2⟩) (by assumption) ?rn2k2
      case yn2k2 => intro w hSw; (try dsimp only at hSw); go_simp; try with_reducible rfl
      try simp only [Act.put, List.setIfInBounds_toArray, List.set_cons_zero, List.set_cons_succ]
      refine wpAnyH_take (i := 3) (oi := { dst := some 8, op := Op.load 52 (Operand.tmp 7), type := 52, pos := "ref.go:74", after := #[{ on := 2, ground := Ground.data }], guard := none }) (v := ?vn3k3) rfl (by kernel_rfl) (by kernel_rfl) (by kernel_rfl) (fun _ _ _ h => h) (Or.inl ⟨by kernel_rfl, ?yn3k3⟩) (by assumption) ?rn3k3
      case yn3k3 => intro w hSw; (try dsimp only at hSw); go_simp; try with_reducible rfl
      try simp only [Act.put, List.setIfInBounds_toArray, List.set_cons_zero, List.set_cons_succ]
      refine wpAnyH_take (i := 6) (oi := { dst := some 11, op := Op.fieldAddr 65 (Operand.tmp 3) 3, type := 0, pos := "ref.go:74", after := #[], guard := none }) (v := ?vn4k6) rfl (by kernel_rfl) (by kernel_rfl) (by kernel_rfl) (fun _ _ _ h => h) (Or.inl ⟨by kernel_rfl, ?yn4k6⟩) (by assumption) ?rn4k6
      case yn4k6 => intro w hSw; (try dsimp only at hSw); go_simp; try with_reducible rfl
      try simp only [Act.put, List.setIfInBounds_toArray, List.set_cons_zero, List.set_cons_succ]
      refine wpAnyH_take (i := 8) (oi := { dst := some 13, op := Op.fieldAddr 65 (Operand.tmp 3) 1, type := 0, pos := "ref.go:74", after := #[], guard := none }) (v := ?vn5k8) rfl (by kernel_rfl) (by kernel_rfl) (by kernel_rfl) (fun _ _ _ h => h) (Or.inl ⟨by kernel_rfl, ?yn5k8⟩) (by assumption) ?rn5k8
      case yn5k8 => intro w hSw; (try dsimp only at hSw); go_simp; try with_reducible rfl
      try simp only [Act.put, List.setIfInBounds_toArray, List.set_cons_zero, List.set_cons_succ]
      refine wpAnyH_take (i := 9) (oi := { dst := some 14, op := Op.load 52 (Operand.tmp 13), type := 52, pos := "ref.go:74", after := #[{ on := 8, ground := Ground.data }], guard := none }) (v := ?vn6k9) rfl (by kernel_rfl) (by kernel_rfl) (by kernel_rfl) (fun _ _ _ h => h) (Or.inl ⟨by kernel_rfl, ?yn6k9⟩) (by assumption) ?rn6k9
      case yn6k9 => intro w hSw; (try dsimp only at hSw); go_simp; try with_reducible rfl
      try simp only [Act.put, List.setIfInBounds_toArray, List.set_cons_zero, List.set_cons_succ]
      refine wpAnyH_ready (rs := [1, 4, 7]) (by kernel_rfl) (by simp) (AllReadyH.cons (o := { dst := some 6, op := Op.load 3 (Operand.tmp 5), type := 3, pos := "ref.go:74", after := #[{ on := 0, ground := Ground.data }], guard := none }) rfl (fun K hK => ?_) (AllReadyH.cons (o := { dst := some 9, op := Op.call { callee := Callee.value (Operand.func 61), args := #[Operand.tmp 8], argTypes := #[52] }, type := 3, pos := "ref.go:74", after := #[{ on := 3, ground := Ground.data }], guard := none }) rfl (fun K hK => ?_) (AllReadyH.cons (o := { dst := some 12, op := Op.load 3 (Operand.tmp 11), type := 3, pos := "ref.go:74", after := #[{ on := 6, ground := Ground.data }], guard := none }) rfl (fun K hK => ?_) (AllReadyH.nil))))
      · obtain ⟨c0, c1, c2, c3, c4, fz⟩ := FW.out.facts
        have f2 := fz 2
        have f3 := fz 3
        clear fz
        go_simp
        clear c0 c1 c2 c3 c4 f2 f3
        clear hHeld
        refine hK.out _ _ (FA.out _ _ _ FW.out) (fun hHeld => ?_)
        clear hK K
        try simp only [Act.put, List.setIfInBounds_toArray, List.set_cons_zero, List.set_cons_succ]
        refine wpAnyH_ready (rs := [4, 7]) (by kernel_rfl) (by simp) (AllReadyH.cons (o := { dst := some 9, op := Op.call { callee := Callee.value (Operand.func 61), args := #[Operand.tmp 8], argTypes := #[52] }, type := 3, pos := "ref.go:74", after := #[{ on := 3, ground := Ground.data }], guard := none }) rfl (fun K hK => ?_) (AllReadyH.cons (o := { dst := some 12, op := Op.load 3 (Operand.tmp 11), type := 3, pos := "ref.go:74", after := #[{ on := 6, ground := Ground.data }], guard := none }) rfl (fun K hK => ?_) (AllReadyH.nil)))
        · go_simp
          refine (SL.out _).mono ?_
          rintro e y2 ⟨rfl, hb⟩
          clear hHeld
          have FW := Lib.hid (FW.out.at (hb.block g (by omega)))
          have BV := Lib.hid (BV.out.trans (hb.mono hv2))
          have hv2 : g + 1 ≤ y2.heap.size := Nat.le_trans hv2 hb.size
          clear hb
          refine hK.out _ _ (FA.out _ _ _ FW.out) (fun hHeld => ?_)
          clear hK K
          try simp only [Act.put, List.setIfInBounds_toArray, List.set_cons_zero, List.set_cons_succ]
          refine wpAnyH_take (i := 5) (oi := { dst := some 10, op := Op.call { callee := Callee.builtin Builtin.max, args := #[Operand.tmp 6, Operand.tmp 9], argTypes := #[3, 3] }, type := 3, pos := "ref.go:74", after := #[{ on := 1, ground := Ground.data }, { on := 4, ground := Ground.data }], guard := none }) (v := ?vn7k5) rfl (by kernel_rfl) (by kernel_rfl) (by kernel_rfl) (fun _ _ _ h => h) (Or.inl ⟨by kernel_rfl, ?yn7k5⟩) (by assumption) ?rn7k5
          case yn7k5 => intro w hSw; (try dsimp only at hSw); go_simp; try with_reducible rfl
          try simp only [Act.put, List.setIfInBounds_toArray, List.set_cons_zero, List.set_cons_succ]
          refine wpAnyH_ready (rs := [7, 10]) (by kernel_rfl) (by simp) (AllReadyH.cons (o := { dst := some 12, op := Op.load 3 (Operand.tmp 11), type := 3, pos := "ref.go:74", after := #[{ on := 6, ground := Ground.data }], guard := none }) rfl (fun K hK => ?_) (AllReadyH.cons (o := { dst := some 15, op := Op.call { callee := Callee.value (Operand.func 61), args := #[Operand.tmp 14], argTypes := #[52] }, type := 3, pos := "ref.go:74", after := #[{ on := 9, ground := Ground.data }, { on := 4, ground := Ground.chain }], guard := none }) rfl (fun K hK => ?_) (AllReadyH.nil)))
          · obtain ⟨c0, c1, c2, c3, c4, fz⟩ := FW.out.facts
            have f2 := fz 2
            have f3 := fz 3
            clear fz
            go_simp
            clear c0 c1 c2 c3 c4 f2 f3
            clear hHeld
            refine hK.out _ _ (FA.out _ _ _ FW.out) (fun hHeld => ?_)
            clear hK K
            try simp only [Act.put, List.setIfInBounds_toArray, List.set_cons_zero, List.set_cons_succ]
            refine wpAnyH_take (i := 12) (oi := { dst := some 17, op := Op.fieldAddr 65 (Operand.tmp 3) 2, type := 0, pos := "ref.go:74", after := #[{ on := 0, ground := Ground.phase }, { on := 1, ground := Ground.phase }, { on := 2, ground := Ground.phase }, { on := 3, ground := Ground.phase }, { on := 4, ground := Ground.phase }, { on := 5, ground := Ground.phase }, { on := 6, ground := Ground.phase }, { on := 7, ground := Ground.phase }, { on := 8, ground := Ground.phase }, { on := 9, ground := Ground.phase }, { on := 10, ground := Ground.textOnly Departure.lateStoresUnsure }, { on := 11, ground := Ground.textOnly Departure.lateStoresUnsure }], guard := none }) (v := ?vn8k12) rfl (by kernel_rfl) (by kernel_rfl) (by kernel_rfl) (fun _ _ _ h => h) (Or.inl ⟨by kernel_rfl, ?yn8k12⟩) (by assumption) ?rn8k12
            case yn8k12 => intro w hSw; (try dsimp only at hSw); go_simp; try with_reducible rfl
            try simp only [Act.put, List.setIfInBounds_toArray, List.set_cons_zero, List.set_cons_succ]
            refine wpAnyH_ready (rs := [10]) (by kernel_rfl) (by simp) (AllReadyH.cons (o := { dst := some 15, op := Op.call { callee := Callee.value (Operand.func 61), args := #[Operand.tmp 14], argTypes := #[52] }, type := 3, pos := "ref.go:74", after := #[{ on := 9, ground := Ground.data }, { on := 4, ground := Ground.chain }], guard := none }) rfl (fun K hK => ?_) (AllReadyH.nil))
            · go_simp
              refine (SH.out _).mono ?_
              rintro e y4 ⟨rfl, hb⟩
              clear hHeld
              have FW := Lib.hid (FW.out.at (hb.block g (by omega)))
              have BV := Lib.hid (BV.out.trans (hb.mono hv2))
              have hv2 : g + 1 ≤ y4.heap.size := Nat.le_trans hv2 hb.size
              clear hb
              refine hK.out _ _ (FA.out _ _ _ FW.out) (fun hHeld => ?_)
              clear hK K
              try simp only [Act.put, List.setIfInBounds_toArray, List.set_cons_zero, List.set_cons_succ]
              refine wpAnyH_take (i := 11) (oi := { dst := some 16, op := Op.call { callee := Callee.builtin Builtin.min, args := #[Operand.tmp 12, Operand.tmp 15], argTypes := #[3, 3] }, type := 3, pos := "ref.go:74", after := #[{ on := 7, ground := Ground.data }, { on := 10, ground := Ground.data }], guard := none }) (v := ?vn9k11) rfl (by kernel_rfl) (by kernel_rfl) (by kernel_rfl) (fun _ _ _ h => h) (Or.inl ⟨by kernel_rfl, ?yn9k11⟩) (by assumption) ?rn9k11
              case yn9k11 => intro w hSw; (try dsimp only at hSw); go_simp; try with_reducible rfl
              try simp only [Act.put, List.setIfInBounds_toArray, List.set_cons_zero, List.set_cons_succ]
              have BG := Lib.hid (BV.out.mono (Nat.le_succ g))
              refine wpAnyH_ready (rs := [13]) (by kernel_rfl) (by simp) (AllReadyH.cons (o := { dst := none, op := Op.store 3 (Operand.tmp 17) (Operand.tmp 10), type := 0, pos := "ref.go:74", after := #[{ on := 12, ground := Ground.data }, { on := 5, ground := Ground.data }, { on := 10, ground := Ground.chain }, { on := 0, ground := Ground.phase }, { on := 1, ground := Ground.phase }, { on := 2, ground := Ground.phase }, { on := 3, ground := Ground.phase }, { on := 4, ground := Ground.phase }, { on := 5, ground := Ground.phase }, { on := 6, ground := Ground.phase }, { on := 7, ground := Ground.phase }, { on := 8, ground := Ground.phase }, { on := 9, ground := Ground.phase }, { on := 10, ground := Ground.textOnly Departure.lateStoresUnsure }, { on := 11, ground := Ground.textOnly Departure.lateStoresUnsure }], guard := none }) rfl (fun K hK => ?_) (AllReadyH.nil))
              · obtain ⟨c0, c1, c2, c3, c4, fz⟩ := FW.out.facts
                have f2 := fz 2
                have f3 := fz 3
                clear fz
                go_simp
                clear c0 c1 c2 c3 c4 f2 f3
                rw [MXE.out]
                have fw := heap_setCell_same _ g 2 _ _ (.int .i64 (nmn l m)) FW.out
                have bg := BG.out.trans ((Below.refl g y4).setCell (p := ⟨g, 2, none⟩) (Nat.le_refl _) (.int .i64 (nmn l m)))
                generalize y4.setCell ⟨g, 2, none⟩ (.int .i64 (nmn l m)) = y5 at *
                have FW := Lib.hid (show FmC y5 g l h (nmn l m) x false from fw)
                have BG := Lib.hid bg
                clear fw bg hHeld
                refine hK.out _ _ (FA.out _ _ _ FW.out) (fun hHeld => ?_)
                clear hK K
                try simp only [Act.put, List.setIfInBounds_toArray, List.set_cons_zero, List.set_cons_succ]
                refine wpAnyH_take (i := 14) (oi := { dst := some 18, op := Op.fieldAddr 65 (Operand.tmp 3) 3, type := 0, pos := "ref.go:74", after := #[{ on := 0, ground := Ground.phase }, { on := 1, ground := Ground.phase }, { on := 2, ground := Ground.phase }, { on := 3, ground := Ground.phase }, { on := 4, ground := Ground.phase }, { on := 5, ground := Ground.phase }, { on := 6, ground := Ground.phase }, { on := 7, ground := Ground.phase }, { on := 8, ground := Ground.phase }, { on := 9, ground := Ground.phase }, { on := 10, ground := Ground.phase }, { on := 11, ground := Ground.phase }, { on := 12, ground := Ground.phase }, { on := 13, ground := Ground.phase }], guard := none }) (v := ?vn10k14) rfl (by kernel_rfl) (by kernel_rfl) (by kernel_rfl) (fun _ _ _ h => h) (Or.inl ⟨by kernel_rfl, ?yn10k14⟩) (by assumption) ?rn10k14
                case yn10k14 => intro w hSw; (try dsimp only at hSw); go_simp; try with_reducible rfl
                try simp only [Act.put, List.setIfInBounds_toArray, List.set_cons_zero, List.set_cons_succ]
                refine wpAnyH_ready (rs := [15]) (by kernel_rfl) (by simp) (AllReadyH.cons (o := { dst := none, op := Op.store 3 (Operand.tmp 18) (Operand.tmp 16), type := 0, pos := "ref.go:74", after := #[{ on := 14, ground := Ground.data }, { on := 11, ground := Ground.data }, { on := 13, ground := Ground.chain }, { on := 0, ground := Ground.phase }, { on := 1, ground := Ground.phase }, { on := 2, ground := Ground.phase }, { on := 3, ground := Ground.phase }, { on := 4, ground := Ground.phase }, { on := 5, ground := Ground.phase }, { on := 6, ground := Ground.phase }, { on := 7, ground := Ground.phase }, { on := 8, ground := Ground.phase }, { on := 9, ground := Ground.phase }, { on := 10, ground := Ground.phase }, { on := 11, ground := Ground.phase }, { on := 12, ground := Ground.phase }, { on := 13, ground := Ground.phase }], guard := none }) rfl (fun K hK => ?_) (AllReadyH.nil))
                · obtain ⟨c0, c1, c2, c3, c4, fz⟩ := FW.out.facts
                  have f2 := fz 2
                  have f3 := fz 3
                  clear fz
                  go_simp
                  clear c0 c1 c2 c3 c4 f2 f3
                  rw [MNE.out]
                  have fw := heap_setCell_same _ g 3 _ _ (.int .i64 (nmx h x)) FW.out
                  have bg := BG.out.trans ((Below.refl g y5).setCell (p := ⟨g, 3, none⟩) (Nat.le_refl _) (.int .i64 (nmx h x)))
                  generalize y5.setCell ⟨g, 3, none⟩ (.int .i64 (nmx h x)) = y6 at *
                  have FW := Lib.hid (show FmC y6 g l h (nmn l m) (nmx h x) false from fw)
                  have BG := Lib.hid bg
                  clear fw bg hHeld
                  refine hK.out _ _ (FA.out _ _ _ FW.out) (fun hHeld => ?_)
                  clear hK K
                  try simp only [Act.put, List.setIfInBounds_toArray, List.set_cons_zero, List.set_cons_succ]
                  refine wpAnyH_done (by kernel_rfl) ?_ _
                  go_wp2_with fail
                  go_meet
                  exact ⟨FW.out, BG.out⟩
          · go_simp
            refine (SH.out _).mono ?_
            rintro e y7 ⟨rfl, hb⟩
            clear hHeld
            have FW := Lib.hid (FW.out.at (hb.block g (by omega)))
            have BV := Lib.hid (BV.out.trans (hb.mono hv2))
            have hv2 : g + 1 ≤ y7.heap.size := Nat.le_trans hv2 hb.size
            clear hb
            refine hK.out _ _ (FA.out _ _ _ FW.out) (fun hHeld => ?_)
            clear hK K
            try simp only [Act.put, List.setIfInBounds_toArray, List.set_cons_zero, List.set_cons_succ]
            refine wpAnyH_ready (rs := [7]) (by kernel_rfl) (by simp) (AllReadyH.cons (o := { dst := some 12, op := Op.load 3 (Operand.tmp 11), type := 3, pos := "ref.go:74", after := #[{ on := 6, ground := Ground.data }], guard := none }) rfl (fun K hK => ?_) (AllReadyH.nil))
            · obtain ⟨c0, c1, c2, c3, c4, fz⟩ := FW.out.facts
              have f2 := fz 2
              have f3 := fz 3
              clear fz
              go_simp
              clear c0 c1 c2 c3 c4 f2 f3
              clear hHeld
              refine hK.out _ _ (FA.out _ _ _ FW.out) (fun hHeld => ?_)
              clear hK K
              try simp only [Act.put, List.setIfInBounds_toArray, List.set_cons_zero, List.set_cons_succ]
              refine wpAnyH_take (i := 11) (oi := { dst := some 16, op := Op.call { callee := Callee.builtin Builtin.min, args := #[Operand.tmp 12, Operand.tmp 15], argTypes := #[3, 3] }, type := 3, pos := "ref.go:74", after := #[{ on := 7, ground := Ground.data }, { on := 10, ground := Ground.data }], guard := none }) (v := ?vn11k11) rfl (by kernel_rfl) (by kernel_rfl) (by kernel_rfl) (fun _ _ _ h => h) (Or.inl ⟨by kernel_rfl, ?yn11k11⟩) (by assumption) ?rn11k11
              case yn11k11 => intro w hSw; (try dsimp only at hSw); go_simp; try with_reducible rfl
              try simp only [Act.put, List.setIfInBounds_toArray, List.set_cons_zero, List.set_cons_succ]
              refine wpAnyH_take (i := 12) (oi := { dst := some 17, op := Op.fieldAddr 65 (Operand.tmp 3) 2, type := 0, pos := "ref.go:74", after := #[{ on := 0, ground := Ground.phase }, { on := 1, ground := Ground.phase }, { on := 2, ground := Ground.phase }, { on := 3, ground := Ground.phase }, { on := 4, ground := Ground.phase }, { on := 5, ground := Ground.phase }, { on := 6, ground := Ground.phase }, { on := 7, ground := Ground.phase }, { on := 8, ground := Ground.phase }, { on := 9, ground := Ground.phase }, { on := 10, ground := Ground.textOnly Departure.lateStoresUnsure }, { on := 11, ground := Ground.textOnly Departure.lateStoresUnsure }], guard := none }) (v := ?vn12k12) rfl (by kernel_rfl) (by kernel_rfl) (by kernel_rfl) (fun _ _ _ h => h) (Or.inl ⟨by kernel_rfl, ?yn12k12⟩) (by assumption) ?rn12k12
              case yn12k12 => intro w hSw; (try dsimp only at hSw); go_simp; try with_reducible rfl
              try simp only [Act.put, List.setIfInBounds_toArray, List.set_cons_zero, List.set_cons_succ]
              have BG := Lib.hid (BV.out.mono (Nat.le_succ g))
              refine wpAnyH_ready (rs := [13]) (by kernel_rfl) (by simp) (AllReadyH.cons (o := { dst := none, op := Op.store 3 (Operand.tmp 17) (Operand.tmp 10), type := 0, pos := "ref.go:74", after := #[{ on := 12, ground := Ground.data }, { on := 5, ground := Ground.data }, { on := 10, ground := Ground.chain }, { on := 0, ground := Ground.phase }, { on := 1, ground := Ground.phase }, { on := 2, ground := Ground.phase }, { on := 3, ground := Ground.phase }, { on := 4, ground := Ground.phase }, { on := 5, ground := Ground.phase }, { on := 6, ground := Ground.phase }, { on := 7, ground := Ground.phase }, { on := 8, ground := Ground.phase }, { on := 9, ground := Ground.phase }, { on := 10, ground := Ground.textOnly Departure.lateStoresUnsure }, { on := 11, ground := Ground.textOnly Departure.lateStoresUnsure }], guard := none }) rfl (fun K hK => ?_) (AllReadyH.nil))
              · obtain ⟨c0, c1, c2, c3, c4, fz⟩ := FW.out.facts
                have f2 := fz 2
                have f3 := fz 3
                clear fz
                go_simp
                clear c0 c1 c2 c3 c4 f2 f3
                rw [MXE.out]
                have fw := heap_setCell_same _ g 2 _ _ (.int .i64 (nmn l m)) FW.out
                have bg := BG.out.trans ((Below.refl g y7).setCell (p := ⟨g, 2, none⟩) (Nat.le_refl _) (.int .i64 (nmn l m)))
                generalize y7.setCell ⟨g, 2, none⟩ (.int .i64 (nmn l m)) = y9 at *
                have FW := Lib.hid (show FmC y9 g l h (nmn l m) x false from fw)
                have BG := Lib.hid bg
                clear fw bg hHeld
                refine hK.out _ _ (FA.out _ _ _ FW.out) (fun hHeld => ?_)
                clear hK K
                try simp only [Act.put, List.setIfInBounds_toArray, List.set_cons_zero, List.set_cons_succ]
                refine wpAnyH_take (i := 14) (oi := { dst := some 18, op := Op.fieldAddr 65 (Operand.tmp 3) 3, type := 0, pos := "ref.go:74", after := #[{ on := 0, ground := Ground.phase }, { on := 1, ground := Ground.phase }, { on := 2, ground := Ground.phase }, { on := 3, ground := Ground.phase }, { on := 4, ground := Ground.phase }, { on := 5, ground := Ground.phase }, { on := 6, ground := Ground.phase }, { on := 7, ground := Ground.phase }, { on := 8, ground := Ground.phase }, { on := 9, ground := Ground.phase }, { on := 10, ground := Ground.phase }, { on := 11, ground := Ground.phase }, { on := 12, ground := Ground.phase }, { on := 13, ground := Ground.phase }], guard := none }) (v := ?vn13k14) rfl (by kernel_rfl) (by kernel_rfl) (by kernel_rfl) (fun _ _ _ h => h) (Or.inl ⟨by kernel_rfl, ?yn13k14⟩) (by assumption) ?rn13k14
                case yn13k14 => intro w hSw; (try dsimp only at hSw); go_simp; try with_reducible rfl
                try simp only [Act.put, List.setIfInBounds_toArray, List.set_cons_zero, List.set_cons_succ]
                refine wpAnyH_ready (rs := [15]) (by kernel_rfl) (by simp) (AllReadyH.cons (o := { dst := none, op := Op.store 3 (Operand.tmp 18) (Operand.tmp 16), type := 0, pos := "ref.go:74", after := #[{ on := 14, ground := Ground.data }, { on := 11, ground := Ground.data }, { on := 13, ground := Ground.chain }, { on := 0, ground := Ground.phase }, { on := 1, ground := Ground.phase }, { on := 2, ground := Ground.phase }, { on := 3, ground := Ground.phase }, { on := 4, ground := Ground.phase }, { on := 5, ground := Ground.phase }, { on := 6, ground := Ground.phase }, { on := 7, ground := Ground.phase }, { on := 8, ground := Ground.phase }, { on := 9, ground := Ground.phase }, { on := 10, ground := Ground.phase }, { on := 11, ground := Ground.phase }, { on := 12, ground := Ground.phase }, { on := 13, ground := Ground.phase }], guard := none }) rfl (fun K hK => ?_) (AllReadyH.nil))
                · obtain ⟨c0, c1, c2, c3, c4, fz⟩ := FW.out.facts
                  have f2 := fz 2
                  have f3 := fz 3
                  clear fz
                  go_simp
                  clear c0 c1 c2 c3 c4 f2 f3
                  rw [MNE.out]
                  have fw := heap_setCell_same _ g 3 _ _ (.int .i64 (nmx h x)) FW.out
                  have bg := BG.out.trans ((Below.refl g y9).setCell (p := ⟨g, 3, none⟩) (Nat.le_refl _) (.int .i64 (nmx h x)))
                  generalize y9.setCell ⟨g, 3, none⟩ (.int .i64 (nmx h x)) = y10 at *
                  have FW := Lib.hid (show FmC y10 g l h (nmn l m) (nmx h x) false from fw)
                  have BG := Lib.hid bg
                  clear fw bg hHeld
                  refine hK.out _ _ (FA.out _ _ _ FW.out) (fun hHeld => ?_)
                  clear hK K
                  try simp only [Act.put, List.setIfInBounds_toArray, List.set_cons_zero, List.set_cons_succ]
                  refine wpAnyH_done (by kernel_rfl) ?_ _
                  go_wp2_with fail
                  go_meet
                  exact ⟨FW.out, BG.out⟩
        · obtain ⟨c0, c1, c2, c3, c4, fz⟩ := FW.out.facts
          have f2 := fz 2
          have f3 := fz 3
          clear fz
          go_simp
          clear c0 c1 c2 c3 c4 f2 f3
          clear hHeld
          refine hK.out _ _ (FA.out _ _ _ FW.out) (fun hHeld => ?_)
          clear hK K
          try simp only [Act.put, List.setIfInBounds_toArray, List.set_cons_zero, List.set_cons_succ]
          refine wpAnyH_ready (rs := [4]) (by kernel_rfl) (by simp) (AllReadyH.cons (o := { dst := some 9, op := Op.call { callee := Callee.value (Operand.func 61), args := #[Operand.tmp 8], argTypes := #[52] }, type := 3, pos := "ref.go:74", after := #[{ on := 3, ground := Ground.data }], guard := none }) rfl (fun K hK => ?_) (AllReadyH.nil))
          · go_simp
            refine (SL.out _).mono ?_
            rintro e y12 ⟨rfl, hb⟩
            clear hHeld
            have FW := Lib.hid (FW.out.at (hb.block g (by omega)))
            have BV := Lib.hid (BV.out.trans (hb.mono hv2))
            have hv2 : g + 1 ≤ y12.heap.size := Nat.le_trans hv2 hb.size
            clear hb
            refine hK.out _ _ (FA.out _ _ _ FW.out) (fun hHeld => ?_)
            clear hK K
            try simp only [Act.put, List.setIfInBounds_toArray, List.set_cons_zero, List.set_cons_succ]
            refine wpAnyH_take (i := 5) (oi := { dst := some 10, op := Op.call { callee := Callee.builtin Builtin.max, args := #[Operand.tmp 6, Operand.tmp 9], argTypes := #[3, 3] }, type := 3, pos := "ref.go:74", after := #[{ on := 1, ground := Ground.data }, { on := 4, ground := Ground.data }], guard := none }) (v := ?vn14k5) rfl (by kernel_rfl) (by kernel_rfl) (by kernel_rfl) (fun _ _ _ h => h) (Or.inl ⟨by kernel_rfl, ?yn14k5⟩) (by assumption) ?rn14k5
            case yn14k5 => intro w hSw; (try dsimp only at hSw); go_simp; try with_reducible rfl
            try simp only [Act.put, List.setIfInBounds_toArray, List.set_cons_zero, List.set_cons_succ]
            refine wpAnyH_take (i := 12) (oi := { dst := some 17, op := Op.fieldAddr 65 (Operand.tmp 3) 2, type := 0, pos := "ref.go:74", after := #[{ on := 0, ground := Ground.phase }, { on := 1, ground := Ground.phase }, { on := 2, ground := Ground.phase }, { on := 3, ground := Ground.phase }, { on := 4, ground := Ground.phase }, { on := 5, ground := Ground.phase }, { on := 6, ground := Ground.phase }, { on := 7, ground := Ground.phase }, { on := 8, ground := Ground.phase }, { on := 9, ground := Ground.phase }, { on := 10, ground := Ground.textOnly Departure.lateStoresUnsure }, { on := 11, ground := Ground.textOnly Departure.lateStoresUnsure }], guard := none }) (v := ?vn15k12) rfl (by kernel_rfl) (by kernel_rfl) (by kernel_rfl) (fun _ _ _ h => h) (Or.inl ⟨by kernel_rfl, ?yn15k12⟩) (by assumption) ?rn15k12
            case yn15k12 => intro w hSw; (try dsimp only at hSw); go_simp; try with_reducible rfl
            try simp only [Act.put, List.setIfInBounds_toArray, List.set_cons_zero, List.set_cons_succ]
            refine wpAnyH_ready (rs := [10]) (by kernel_rfl) (by simp) (AllReadyH.cons (o := { dst := some 15, op := Op.call { callee := Callee.value (Operand.func 61), args := #[Operand.tmp 14], argTypes := #[52] }, type := 3, pos := "ref.go:74", after := #[{ on := 9, ground := Ground.data }, { on := 4, ground := Ground.chain }], guard := none }) rfl (fun K hK => ?_) (AllReadyH.nil))
            · go_simp
              refine (SH.out _).mono ?_
              rintro e y13 ⟨rfl, hb⟩
              clear hHeld
              have FW := Lib.hid (FW.out.at (hb.block g (by omega)))
              have BV := Lib.hid (BV.out.trans (hb.mono hv2))
              have hv2 : g + 1 ≤ y13.heap.size := Nat.le_trans hv2 hb.size
              clear hb
              refine hK.out _ _ (FA.out _ _ _ FW.out) (fun hHeld => ?_)
              clear hK K
              try simp only [Act.put, List.setIfInBounds_toArray, List.set_cons_zero, List.set_cons_succ]
              refine wpAnyH_take (i := 11) (oi := { dst := some 16, op := Op.call { callee := Callee.builtin Builtin.min, args := #[Operand.tmp 12, Operand.tmp 15], argTypes := #[3, 3] }, type := 3, pos := "ref.go:74", after := #[{ on := 7, ground := Ground.data }, { on := 10, ground := Ground.data }], guard := none }) (v := ?vn16k11) rfl (by kernel_rfl) (by kernel_rfl) (by kernel_rfl) (fun _ _ _ h => h) (Or.inl ⟨by kernel_rfl, ?yn16k11⟩) (by assumption) ?rn16k11
              case yn16k11 => intro w hSw; (try dsimp only at hSw); go_simp; try with_reducible rfl
              try simp only [Act.put, List.setIfInBounds_toArray, List.set_cons_zero, List.set_cons_succ]
              have BG := Lib.hid (BV.out.mono (Nat.le_succ g))
              refine wpAnyH_ready (rs := [13]) (by kernel_rfl) (by simp) (AllReadyH.cons (o := { dst := none, op := Op.store 3 (Operand.tmp 17) (Operand.tmp 10), type := 0, pos := "ref.go:74", after := #[{ on := 12, ground := Ground.data }, { on := 5, ground := Ground.data }, { on := 10, ground := Ground.chain }, { on := 0, ground := Ground.phase }, { on := 1, ground := Ground.phase }, { on := 2, ground := Ground.phase }, { on := 3, ground := Ground.phase }, { on := 4, ground := Ground.phase }, { on := 5, ground := Ground.phase }, { on := 6, ground := Ground.phase }, { on := 7, ground := Ground.phase }, { on := 8, ground := Ground.phase }, { on := 9, ground := Ground.phase }, { on := 10, ground := Ground.textOnly Departure.lateStoresUnsure }, { on := 11, ground := Ground.textOnly Departure.lateStoresUnsure }], guard := none }) rfl (fun K hK => ?_) (AllReadyH.nil))
              · obtain ⟨c0, c1, c2, c3, c4, fz⟩ := FW.out.facts
                have f2 := fz 2
                have f3 := fz 3
                clear fz
                go_simp
                clear c0 c1 c2 c3 c4 f2 f3
                rw [MXE.out]
                have fw := heap_setCell_same _ g 2 _ _ (.int .i64 (nmn l m)) FW.out
                have bg := BG.out.trans ((Below.refl g y13).setCell (p := ⟨g, 2, none⟩) (Nat.le_refl _) (.int .i64 (nmn l m)))
                generalize y13.setCell ⟨g, 2, none⟩ (.int .i64 (nmn l m)) = y14 at *
                have FW := Lib.hid (show FmC y14 g l h (nmn l m) x false from fw)
                have BG := Lib.hid bg
                clear fw bg hHeld
                refine hK.out _ _ (FA.out _ _ _ FW.out) (fun hHeld => ?_)
                clear hK K
                try simp only [Act.put, List.setIfInBounds_toArray, List.set_cons_zero, List.set_cons_succ]
                refine wpAnyH_take (i := 14) (oi := { dst := some 18, op := Op.fieldAddr 65 (Operand.tmp 3) 3, type := 0, pos := "ref.go:74", after := #[{ on := 0, ground := Ground.phase }, { on := 1, ground := Ground.phase }, { on := 2, ground := Ground.phase }, { on := 3, ground := Ground.phase }, { on := 4, ground := Ground.phase }, { on := 5, ground := Ground.phase }, { on := 6, ground := Ground.phase }, { on := 7, ground := Ground.phase }, { on := 8, ground := Ground.phase }, { on := 9, ground := Ground.phase }, { on := 10, ground := Ground.phase }, { on := 11, ground := Ground.phase }, { on := 12, ground := Ground.phase }, { on := 13, ground := Ground.phase }], guard := none }) (v := ?vn17k14) rfl (by kernel_rfl) (by kernel_rfl) (by kernel_rfl) (fun _ _ _ h => h) (Or.inl ⟨by kernel_rfl, ?yn17k14⟩) (by assumption) ?rn17k14
                case yn17k14 => intro w hSw; (try dsimp only at hSw); go_simp; try with_reducible rfl
                try simp only [Act.put, List.setIfInBounds_toArray, List.set_cons_zero, List.set_cons_succ]
                refine wpAnyH_ready (rs := [15]) (by kernel_rfl) (by simp) (AllReadyH.cons (o := { dst := none, op := Op.store 3 (Operand.tmp 18) (Operand.tmp 16), type := 0, pos := "ref.go:74", after := #[{ on := 14, ground := Ground.data }, { on := 11, ground := Ground.data }, { on := 13, ground := Ground.chain }, { on := 0, ground := Ground.phase }, { on := 1, ground := Ground.phase }, { on := 2, ground := Ground.phase }, { on := 3, ground := Ground.phase }, { on := 4, ground := Ground.phase }, { on := 5, ground := Ground.phase }, { on := 6, ground := Ground.phase }, { on := 7, ground := Ground.phase }, { on := 8, ground := Ground.phase }, { on := 9, ground := Ground.phase }, { on := 10, ground := Ground.phase }, { on := 11, ground := Ground.phase }, { on := 12, ground := Ground.phase }, { on := 13, ground := Ground.phase }], guard := none }) rfl (fun K hK => ?_) (AllReadyH.nil))
                · obtain ⟨c0, c1, c2, c3, c4, fz⟩ := FW.out.facts
                  have f2 := fz 2
                  have f3 := fz 3
                  clear fz
                  go_simp
                  clear c0 c1 c2 c3 c4 f2 f3
                  rw [MNE.out]
                  have fw := heap_setCell_same _ g 3 _ _ (.int .i64 (nmx h x)) FW.out
                  have bg := BG.out.trans ((Below.refl g y14).setCell (p := ⟨g, 3, none⟩) (Nat.le_refl _) (.int .i64 (nmx h x)))
                  generalize y14.setCell ⟨g, 3, none⟩ (.int .i64 (nmx h x)) = y15 at *
                  have FW := Lib.hid (show FmC y15 g l h (nmn l m) (nmx h x) false from fw)
                  have BG := Lib.hid bg
                  clear fw bg hHeld
                  refine hK.out _ _ (FA.out _ _ _ FW.out) (fun hHeld => ?_)
                  clear hK K
                  try simp only [Act.put, List.setIfInBounds_toArray, List.set_cons_zero, List.set_cons_succ]
                  refine wpAnyH_done (by kernel_rfl) ?_ _
                  go_wp2_with fail
                  go_meet
                  exact ⟨FW.out, BG.out⟩
      · go_simp
        refine (SL.out _).mono ?_
        rintro e y16 ⟨rfl, hb⟩
        clear hHeld
        have FW := Lib.hid (FW.out.at (hb.block g (by omega)))
        have BV := Lib.hid (BV.out.trans (hb.mono hv2))
        have hv2 : g + 1 ≤ y16.heap.size := Nat.le_trans hv2 hb.size
        clear hb
        refine hK.out _ _ (FA.out _ _ _ FW.out) (fun hHeld => ?_)
        clear hK K
        try simp only [Act.put, List.setIfInBounds_toArray, List.set_cons_zero, List.set_cons_succ]
        refine wpAnyH_ready (rs := [1, 7, 10]) (by kernel_rfl) (by simp) (AllReadyH.cons (o := { dst := some 6, op := Op.load 3 (Operand.tmp 5), type := 3, pos := "ref.go:74", after := #[{ on := 0, ground := Ground.data }], guard := none }) rfl (fun K hK => ?_) (AllReadyH.cons (o := { dst := some 12, op := Op.load 3 (Operand.tmp 11), type := 3, pos := "ref.go:74", after := #[{ on := 6, ground := Ground.data }], guard := none }) rfl (fun K hK => ?_) (AllReadyH.cons (o := { dst := some 15, op := Op.call { callee := Callee.value (Operand.func 61), args := #[Operand.tmp 14], argTypes := #[52] }, type := 3, pos := "ref.go:74", after := #[{ on := 9, ground := Ground.data }, { on := 4, ground := Ground.chain }], guard := none }) rfl (fun K hK => ?_) (AllReadyH.nil))))
        · obtain ⟨c0, c1, c2, c3, c4, fz⟩ := FW.out.facts
          have f2 := fz 2
          have f3 := fz 3
          clear fz
          go_simp
          clear c0 c1 c2 c3 c4 f2 f3
          clear hHeld
          refine hK.out _ _ (FA.out _ _ _ FW.out) (fun hHeld => ?_)
          clear hK K
          try simp only [Act.put, List.setIfInBounds_toArray, List.set_cons_zero, List.set_cons_succ]
          refine wpAnyH_take (i := 5) (oi := { dst := some 10, op := Op.call { callee := Callee.builtin Builtin.max, args := #[Operand.tmp 6, Operand.tmp 9], argTypes := #[3, 3] }, type := 3, pos := "ref.go:74", after := #[{ on := 1, ground := Ground.data }, { on := 4, ground := Ground.data }], guard := none }) (v := ?vn18k5) rfl (by kernel_rfl) (by kernel_rfl) (by kernel_rfl) (fun _ _ _ h => h) (Or.inl ⟨by kernel_rfl, ?yn18k5⟩) (by assumption) ?rn18k5
          case yn18k5 => intro w hSw; (try dsimp only at hSw); go_simp; try with_reducible rfl
          try simp only [Act.put, List.setIfInBounds_toArray, List.set_cons_zero, List.set_cons_succ]
          refine wpAnyH_ready (rs := [7, 10]) (by kernel_rfl) (by simp) (AllReadyH.cons (o := { dst := some 12, op := Op.load 3 (Operand.tmp 11), type := 3, pos := "ref.go:74", after := #[{ on := 6, ground := Ground.data }], guard := none }) rfl (fun K hK => ?_) (AllReadyH.cons (o := { dst := some 15, op := Op.call { callee := Callee.value (Operand.func 61), args := #[Operand.tmp 14], argTypes := #[52] }, type := 3, pos := "ref.go:74", after := #[{ on := 9, ground := Ground.data }, { on := 4, ground := Ground.chain }], guard := none }) rfl (fun K hK => ?_) (AllReadyH.nil)))
          · obtain ⟨c0, c1, c2, c3, c4, fz⟩ := FW.out.facts
            have f2 := fz 2
            have f3 := fz 3
            clear fz
            go_simp
            clear c0 c1 c2 c3 c4 f2 f3
            clear hHeld
            refine hK.out _ _ (FA.out _ _ _ FW.out) (fun hHeld => ?_)
            clear hK K
            try simp only [Act.put, List.setIfInBounds_toArray, List.set_cons_zero, List.set_cons_succ]
            refine wpAnyH_take (i := 12) (oi := { dst := some 17, op := Op.fieldAddr 65 (Operand.tmp 3) 2, type := 0, pos := "ref.go:74", after := #[{ on := 0, ground := Ground.phase }, { on := 1, ground := Ground.phase }, { on := 2, ground := Ground.phase }, { on := 3, ground := Ground.phase }, { on := 4, ground := Ground.phase }, { on := 5, ground := Ground.phase }, { on := 6, ground := Ground.phase }, { on := 7, ground := Ground.phase }, { on := 8, ground := Ground.phase }, { on := 9, ground := Ground.phase }, { on := 10, ground := Ground.textOnly Departure.lateStoresUnsure }, { on := 11, ground := Ground.textOnly Departure.lateStoresUnsure }], guard := none }) (v := ?vn19k12) rfl (by kernel_rfl) (by kernel_rfl) (by kernel_rfl) (fun _ _ _ h => h) (Or.inl ⟨by kernel_rfl, ?yn19k12⟩) (by assumption) ?rn19k12
            case yn19k12 => intro w hSw; (try dsimp only at hSw); go_simp; try with_reducible rfl
            try simp only [Act.put, List.setIfInBounds_toArray, List.set_cons_zero, List.set_cons_succ]
            refine wpAnyH_ready (rs := [10]) (by kernel_rfl) (by simp) (AllReadyH.cons (o := { dst := some 15, op := Op.call { callee := Callee.value (Operand.func 61), args := #[Operand.tmp 14], argTypes := #[52] }, type := 3, pos := "ref.go:74", after := #[{ on := 9, ground := Ground.data }, { on := 4, ground := Ground.chain }], guard := none }) rfl (fun K hK => ?_) (AllReadyH.nil))
            · go_simp
              refine (SH.out _).mono ?_
              rintro e y19 ⟨rfl, hb⟩
              clear hHeld
              have FW := Lib.hid (FW.out.at (hb.block g (by omega)))
              have BV := Lib.hid (BV.out.trans (hb.mono hv2))
              have hv2 : g + 1 ≤ y19.heap.size := Nat.le_trans hv2 hb.size
              clear hb
              refine hK.out _ _ (FA.out _ _ _ FW.out) (fun hHeld => ?_)
              clear hK K
              try simp only [Act.put, List.setIfInBounds_toArray, List.set_cons_zero, List.set_cons_succ]
              refine wpAnyH_take (i := 11) (oi := { dst := some 16, op := Op.call { callee := Callee.builtin Builtin.min, args := #[Operand.tmp 12, Operand.tmp 15], argTypes := #[3, 3] }, type := 3, pos := "ref.go:74", after := #[{ on := 7, ground := Ground.data }, { on := 10, ground := Ground.data }], guard := none }) (v := ?vn20k11) rfl (by kernel_rfl) (by kernel_rfl) (by kernel_rfl) (fun _ _ _ h => h) (Or.inl ⟨by kernel_rfl, ?yn20k11⟩) (by assumption) ?rn20k11
              case yn20k11 => intro w hSw; (try dsimp only at hSw); go_simp; try with_reducible rfl
              try simp only [Act.put, List.setIfInBounds_toArray, List.set_cons_zero, List.set_cons_succ]
              have BG := Lib.hid (BV.out.mono (Nat.le_succ g))
              refine wpAnyH_ready (rs := [13]) (by kernel_rfl) (by simp) (AllReadyH.cons (o := { dst := none, op := Op.store 3 (Operand.tmp 17) (Operand.tmp 10), type := 0, pos := "ref.go:74", after := #[{ on := 12, ground := Ground.data }, { on := 5, ground := Ground.data }, { on := 10, ground := Ground.chain }, { on := 0, ground := Ground.phase }, { on := 1, ground := Ground.phase }, { on := 2, ground := Ground.phase }, { on := 3, ground := Ground.phase }, { on := 4, ground := Ground.phase }, { on := 5, ground := Ground.phase }, { on := 6, ground := Ground.phase }, { on := 7, ground := Ground.phase }, { on := 8, ground := Ground.phase }, { on := 9, ground := Ground.phase }, { on := 10, ground := Ground.textOnly Departure.lateStoresUnsure }, { on := 11, ground := Ground.textOnly Departure.lateStoresUnsure }], guard := none }) rfl (fun K hK => ?_) (AllReadyH.nil))
              · obtain ⟨c0, c1, c2, c3, c4, fz⟩ := FW.out.facts
                have f2 := fz 2
                have f3 := fz 3
                clear fz
                go_simp
                clear c0 c1 c2 c3 c4 f2 f3
                rw [MXE.out]
                have fw := heap_setCell_same _ g 2 _ _ (.int .i64 (nmn l m)) FW.out
                have bg := BG.out.trans ((Below.refl g y19).setCell (p := ⟨g, 2, none⟩) (Nat.le_refl _) (.int .i64 (nmn l m)))
                generalize y19.setCell ⟨g, 2, none⟩ (.int .i64 (nmn l m)) = y20 at *
                have FW := Lib.hid (show FmC y20 g l h (nmn l m) x false from fw)
                have BG := Lib.hid bg
                clear fw bg hHeld
                refine hK.out _ _ (FA.out _ _ _ FW.out) (fun hHeld => ?_)
                clear hK K
                try simp only [Act.put, List.setIfInBounds_toArray, List.set_cons_zero, List.set_cons_succ]
                refine wpAnyH_take (i := 14) (oi := { dst := some 18, op := Op.fieldAddr 65 (Operand.tmp 3) 3, type := 0, pos := "ref.go:74", after := #[{ on := 0, ground := Ground.phase }, { on := 1, ground := Ground.phase }, { on := 2, ground := Ground.phase }, { on := 3, ground := Ground.phase }, { on := 4, ground := Ground.phase }, { on := 5, ground := Ground.phase }, { on := 6, ground := Ground.phase }, { on := 7, ground := Ground.phase }, { on := 8, ground := Ground.phase }, { on := 9, ground := Ground.phase }, { on := 10, ground := Ground.phase }, { on := 11, ground := Ground.phase }, { on := 12, ground := Ground.phase }, { on := 13, ground := Ground.phase }], guard := none }) (v := ?vn21k14) rfl (by kernel_rfl) (by kernel_rfl) (by kernel_rfl) (fun _ _ _ h => h) (Or.inl ⟨by kernel_rfl, ?yn21k14⟩) (by assumption) ?rn21k14
                case yn21k14 => intro w hSw; (try dsimp only at hSw); go_simp; try with_reducible rfl
                try simp only [Act.put, List.setIfInBounds_toArray, List.set_cons_zero, List.set_cons_succ]
                refine wpAnyH_ready (rs := [15]) (by kernel_rfl) (by simp) (AllReadyH.cons (o := { dst := none, op := Op.store 3 (Operand.tmp 18) (Operand.tmp 16), type := 0, pos := "ref.go:74", after := #[{ on := 14, ground := Ground.data }, { on := 11, ground := Ground.data }, { on := 13, ground := Ground.chain }, { on := 0, ground := Ground.phase }, { on := 1, ground := Ground.phase }, { on := 2, ground := Ground.phase }, { on := 3, ground := Ground.phase }, { on := 4, ground := Ground.phase }, { on := 5, ground := Ground.phase }, { on := 6, ground := Ground.phase }, { on := 7, ground := Ground.phase }, { on := 8, ground := Ground.phase }, { on := 9, ground := Ground.phase }, { on := 10, ground := Ground.phase }, { on := 11, ground := Ground.phase }, { on := 12, ground := Ground.phase }, { on := 13, ground := Ground.phase }], guard := none }) rfl (fun K hK => ?_) (AllReadyH.nil))
                · obtain ⟨c0, c1, c2, c3, c4, fz⟩ := FW.out.facts
                  have f2 := fz 2
                  have f3 := fz 3
                  clear fz
                  go_simp
                  clear c0 c1 c2 c3 c4 f2 f3
                  rw [MNE.out]
                  have fw := heap_setCell_same _ g 3 _ _ (.int .i64 (nmx h x)) FW.out
                  have bg := BG.out.trans ((Below.refl g y20).setCell (p := ⟨g, 3, none⟩) (Nat.le_refl _) (.int .i64 (nmx h x)))
                  generalize y20.setCell ⟨g, 3, none⟩ (.int .i64 (nmx h x)) = y21 at *
                  have FW := Lib.hid (show FmC y21 g l h (nmn l m) (nmx h x) false from fw)
                  have BG := Lib.hid bg
                  clear fw bg hHeld
                  refine hK.out _ _ (FA.out _ _ _ FW.out) (fun hHeld => ?_)
                  clear hK K
                  try simp only [Act.put, List.setIfInBounds_toArray, List.set_cons_zero, List.set_cons_succ]
                  refine wpAnyH_done (by kernel_rfl) ?_ _
                  go_wp2_with fail
                  go_meet
                  exact ⟨FW.out, BG.out⟩
          · go_simp
            refine (SH.out _).mono ?_
            rintro e y22 ⟨rfl, hb⟩
            clear hHeld
            have FW := Lib.hid (FW.out.at (hb.block g (by omega)))
            have BV := Lib.hid (BV.out.trans (hb.mono hv2))
            have hv2 : g + 1 ≤ y22.heap.size := Nat.le_trans hv2 hb.size
            clear hb
            refine hK.out _ _ (FA.out _ _ _ FW.out) (fun hHeld => ?_)
            clear hK K
            try simp only [Act.put, List.setIfInBounds_toArray, List.set_cons_zero, List.set_cons_succ]
            refine wpAnyH_ready (rs := [7]) (by kernel_rfl) (by simp) (AllReadyH.cons (o := { dst := some 12, op := Op.load 3 (Operand.tmp 11), type := 3, pos := "ref.go:74", after := #[{ on := 6, ground := Ground.data }], guard := none }) rfl (fun K hK => ?_) (AllReadyH.nil))
            · obtain ⟨c0, c1, c2, c3, c4, fz⟩ := FW.out.facts
              have f2 := fz 2
              have f3 := fz 3
              clear fz
              go_simp
              clear c0 c1 c2 c3 c4 f2 f3
              clear hHeld
              refine hK.out _ _ (FA.out _ _ _ FW.out) (fun hHeld => ?_)
              clear hK K
              try simp only [Act.put, List.setIfInBounds_toArray, List.set_cons_zero, List.set_cons_succ]
              refine wpAnyH_take (i := 11) (oi := { dst := some 16, op := Op.call { callee := Callee.builtin Builtin.min, args := #[Operand.tmp 12, Operand.tmp 15], argTypes := #[3, 3] }, type := 3, pos := "ref.go:74", after := #[{ on := 7, ground := Ground.data }, { on := 10, ground := Ground.data }], guard := none }) (v := ?vn22k11) rfl (by kernel_rfl) (by kernel_rfl) (by kernel_rfl) (fun _ _ _ h => h) (Or.inl ⟨by kernel_rfl, ?yn22k11⟩) (by assumption) ?rn22k11
              case yn22k11 => intro w hSw; (try dsimp only at hSw); go_simp; try with_reducible rfl
              try simp only [Act.put, List.setIfInBounds_toArray, List.set_cons_zero, List.set_cons_succ]
              refine wpAnyH_take (i := 12) (oi := { dst := some 17, op := Op.fieldAddr 65 (Operand.tmp 3) 2, type := 0, pos := "ref.go:74", after := #[{ on := 0, ground := Ground.phase }, { on := 1, ground := Ground.phase }, { on := 2, ground := Ground.phase }, { on := 3, ground := Ground.phase }, { on := 4, ground := Ground.phase }, { on := 5, ground := Ground.phase }, { on := 6, ground := Ground.phase }, { on := 7, ground := Ground.phase }, { on := 8, ground := Ground.phase }, { on := 9, ground := Ground.phase }, { on := 10, ground := Ground.textOnly Departure.lateStoresUnsure }, { on := 11, ground := Ground.textOnly Departure.lateStoresUnsure }], guard := none }) (v := ?vn23k12) rfl (by kernel_rfl) (by kernel_rfl) (by kernel_rfl) (fun _ _ _ h => h) (Or.inl ⟨by kernel_rfl, ?yn23k12⟩) (by assumption) ?rn23k12
              case yn23k12 => intro w hSw; (try dsimp only at hSw); go_simp; try with_reducible rfl
              try simp only [Act.put, List.setIfInBounds_toArray, List.set_cons_zero, List.set_cons_succ]
              have BG := Lib.hid (BV.out.mono (Nat.le_succ g))
              refine wpAnyH_ready (rs := [13]) (by kernel_rfl) (by simp) (AllReadyH.cons (o := { dst := none, op := Op.store 3 (Operand.tmp 17) (Operand.tmp 10), type := 0, pos := "ref.go:74", after := #[{ on := 12, ground := Ground.data }, { on := 5, ground := Ground.data }, { on := 10, ground := Ground.chain }, { on := 0, ground := Ground.phase }, { on := 1, ground := Ground.phase }, { on := 2, ground := Ground.phase }, { on := 3, ground := Ground.phase }, { on := 4, ground := Ground.phase }, { on := 5, ground := Ground.phase }, { on := 6, ground := Ground.phase }, { on := 7, ground := Ground.phase }, { on := 8, ground := Ground.phase }, { on := 9, ground := Ground.phase }, { on := 10, ground := Ground.textOnly Departure.lateStoresUnsure }, { on := 11, ground := Ground.textOnly Departure.lateStoresUnsure }], guard := none }) rfl (fun K hK => ?_) (AllReadyH.nil))
              · obtain ⟨c0, c1, c2, c3, c4, fz⟩ := FW.out.facts
                have f2 := fz 2
                have f3 := fz 3
                clear fz
                go_simp
                clear c0 c1 c2 c3 c4 f2 f3
                rw [MXE.out]
                have fw := heap_setCell_same _ g 2 _ _ (.int .i64 (nmn l m)) FW.out
                have bg := BG.out.trans ((Below.refl g y22).setCell (p := ⟨g, 2, none⟩) (Nat.le_refl _) (.int .i64 (nmn l m)))
                generalize y22.setCell ⟨g, 2, none⟩ (.int .i64 (nmn l m)) = y24 at *
                have FW := Lib.hid (show FmC y24 g l h (nmn l m) x false from fw)
                have BG := Lib.hid bg
                clear fw bg hHeld
                refine hK.out _ _ (FA.out _ _ _ FW.out) (fun hHeld => ?_)
                clear hK K
                try simp only [Act.put, List.setIfInBounds_toArray, List.set_cons_zero, List.set_cons_succ]
                refine wpAnyH_take (i := 14) (oi := { dst := some 18, op := Op.fieldAddr 65 (Operand.tmp 3) 3, type := 0, pos := "ref.go:74", after := #[{ on := 0, ground := Ground.phase }, { on := 1, ground := Ground.phase }, { on := 2, ground := Ground.phase }, { on := 3, ground := Ground.phase }, { on := 4, ground := Ground.phase }, { on := 5, ground := Ground.phase }, { on := 6, ground := Ground.phase }, { on := 7, ground := Ground.phase }, { on := 8, ground := Ground.phase }, { on := 9, ground := Ground.phase }, { on := 10, ground := Ground.phase }, { on := 11, ground := Ground.phase }, { on := 12, ground := Ground.phase }, { on := 13, ground := Ground.phase }], guard := none }) (v := ?vn24k14) rfl (by kernel_rfl) (by kernel_rfl) (by kernel_rfl) (fun _ _ _ h => h) (Or.inl ⟨by kernel_rfl, ?yn24k14⟩) (by assumption) ?rn24k14
                case yn24k14 => intro w hSw; (try dsimp only at hSw); go_simp; try with_reducible rfl
                try simp only [Act.put, List.setIfInBounds_toArray, List.set_cons_zero, List.set_cons_succ]
                refine wpAnyH_ready (rs := [15]) (by kernel_rfl) (by simp) (AllReadyH.cons (o := { dst := none, op := Op.store 3 (Operand.tmp 18) (Operand.tmp 16), type := 0, pos := "ref.go:74", after := #[{ on := 14, ground := Ground.data }, { on := 11, ground := Ground.data }, { on := 13, ground := Ground.chain }, { on := 0, ground := Ground.phase }, { on := 1, ground := Ground.phase }, { on := 2, ground := Ground.phase }, { on := 3, ground := Ground.phase }, { on := 4, ground := Ground.phase }, { on := 5, ground := Ground.phase }, { on := 6, ground := Ground.phase }, { on := 7, ground := Ground.phase }, { on := 8, ground := Ground.phase }, { on := 9, ground := Ground.phase }, { on := 10, ground := Ground.phase }, { on := 11, ground := Ground.phase }, { on := 12, ground := Ground.phase }, { on := 13, ground := Ground.phase }], guard := none }) rfl (fun K hK => ?_) (AllReadyH.nil))
                · obtain ⟨c0, c1, c2, c3, c4, fz⟩ := FW.out.facts
                  have f2 := fz 2
                  have f3 := fz 3
                  clear fz
                  go_simp
                  clear c0 c1 c2 c3 c4 f2 f3
                  rw [MNE.out]
                  have fw := heap_setCell_same _ g 3 _ _ (.int .i64 (nmx h x)) FW.out
                  have bg := BG.out.trans ((Below.refl g y24).setCell (p := ⟨g, 3, none⟩) (Nat.le_refl _) (.int .i64 (nmx h x)))
                  generalize y24.setCell ⟨g, 3, none⟩ (.int .i64 (nmx h x)) = y25 at *
                  have FW := Lib.hid (show FmC y25 g l h (nmn l m) (nmx h x) false from fw)
                  have BG := Lib.hid bg
                  clear fw bg hHeld
                  refine hK.out _ _ (FA.out _ _ _ FW.out) (fun hHeld => ?_)
                  clear hK K
                  try simp only [Act.put, List.setIfInBounds_toArray, List.set_cons_zero, List.set_cons_succ]
                  refine wpAnyH_done (by kernel_rfl) ?_ _
                  go_wp2_with fail
                  go_meet
                  exact ⟨FW.out, BG.out⟩
        · obtain ⟨c0, c1, c2, c3, c4, fz⟩ := FW.out.facts
          have f2 := fz 2
          have f3 := fz 3
          clear fz
          go_simp
          clear c0 c1 c2 c3 c4 f2 f3
          clear hHeld
          refine hK.out _ _ (FA.out _ _ _ FW.out) (fun hHeld => ?_)
          clear hK K
          try simp only [Act.put, List.setIfInBounds_toArray, List.set_cons_zero, List.set_cons_succ]
          refine wpAnyH_ready (rs := [1, 10]) (by kernel_rfl) (by simp) (AllReadyH.cons (o := { dst := some 6, op := Op.load 3 (Operand.tmp 5), type := 3, pos := "ref.go:74", after := #[{ on := 0, ground := Ground.data }], guard := none }) rfl (fun K hK => ?_) (AllReadyH.cons (o := { dst := some 15, op := Op.call { callee := Callee.value (Operand.func 61), args := #[Operand.tmp 14], argTypes := #[52] }, type := 3, pos := "ref.go:74", after := #[{ on := 9, ground := Ground.data }, { on := 4, ground := Ground.chain }], guard := none }) rfl (fun K hK => ?_) (AllReadyH.nil)))
          · obtain ⟨c0, c1, c2, c3, c4, fz⟩ := FW.out.facts
            have f2 := fz 2
            have f3 := fz 3
            clear fz
            go_simp
            clear c0 c1 c2 c3 c4 f2 f3
            clear hHeld
            refine hK.out _ _ (FA.out _ _ _ FW.out) (fun hHeld => ?_)
            clear hK K
            try simp only [Act.put, List.setIfInBounds_toArray, List.set_cons_zero, List.set_cons_succ]
            refine wpAnyH_take (i := 5) (oi := { dst := some 10, op := Op.call { callee := Callee.builtin Builtin.max, args := #[Operand.tmp 6, Operand.tmp 9], argTypes := #[3, 3] }, type := 3, pos := "ref.go:74", after := #[{ on := 1, ground := Ground.data }, { on := 4, ground := Ground.data }], guard := none }) (v := ?vn25k5) rfl (by kernel_rfl) (by kernel_rfl) (by kernel_rfl) (fun _ _ _ h => h) (Or.inl ⟨by kernel_rfl, ?yn25k5⟩) (by assumption) ?rn25k5
            case yn25k5 => intro w hSw; (try dsimp only at hSw); go_simp; try with_reducible rfl
            try simp only [Act.put, List.setIfInBounds_toArray, List.set_cons_zero, List.set_cons_succ]
            refine wpAnyH_take (i := 12) (oi := { dst := some 17, op := Op.fieldAddr 65 (Operand.tmp 3) 2, type := 0, pos := "ref.go:74", after := #[{ on := 0, ground := Ground.phase }, { on := 1, ground := Ground.phase }, { on := 2, ground := Ground.phase }, { on := 3, ground := Ground.phase }, { on := 4, ground := Ground.phase }, { on := 5, ground := Ground.phase }, { on := 6, ground := Ground.phase }, { on := 7, ground := Ground.phase }, { on := 8, ground := Ground.phase }, { on := 9, ground := Ground.phase }, { on := 10, ground := Ground.textOnly Departure.lateStoresUnsure }, { on := 11, ground := Ground.textOnly Departure.lateStoresUnsure }], guard := none }) (v := ?vn26k12) rfl (by kernel_rfl) (by kernel_rfl) (by kernel_rfl) (fun _ _ _ h => h) (Or.inl ⟨by kernel_rfl, ?yn26k12⟩) (by assumption) ?rn26k12
            case yn26k12 => intro w hSw; (try dsimp only at hSw); go_simp; try with_reducible rfl
            try simp only [Act.put, List.setIfInBounds_toArray, List.set_cons_zero, List.set_cons_succ]
            refine wpAnyH_ready (rs := [10]) (by kernel_rfl) (by simp) (AllReadyH.cons (o := { dst := some 15, op := Op.call { callee := Callee.value (Operand.func 61), args := #[Operand.tmp 14], argTypes := #[52] }, type := 3, pos := "ref.go:74", after := #[{ on := 9, ground := Ground.data }, { on := 4, ground := Ground.chain }], guard := none }) rfl (fun K hK => ?_) (AllReadyH.nil))
            · go_simp
              refine (SH.out _).mono ?_
              rintro e y28 ⟨rfl, hb⟩
              clear hHeld
              have FW := Lib.hid (FW.out.at (hb.block g (by omega)))
              have BV := Lib.hid (BV.out.trans (hb.mono hv2))
              have hv2 : g + 1 ≤ y28.heap.size := Nat.le_trans hv2 hb.size
              clear hb
              refine hK.out _ _ (FA.out _ _ _ FW.out) (fun hHeld => ?_)
              clear hK K
              try simp only [Act.put, List.setIfInBounds_toArray, List.set_cons_zero, List.set_cons_succ]
              refine wpAnyH_take (i := 11) (oi := { dst := some 16, op := Op.call { callee := Callee.builtin Builtin.min, args := #[Operand.tmp 12, Operand.tmp 15], argTypes := #[3, 3] }, type := 3, pos := "ref.go:74", after := #[{ on := 7, ground := Ground.data }, { on := 10, ground := Ground.data }], guard := none }) (v := ?vn27k11) rfl (by kernel_rfl) (by kernel_rfl) (by kernel_rfl) (fun _ _ _ h => h) (Or.inl ⟨by kernel_rfl, ?yn27k11⟩) (by assumption) ?rn27k11
              case yn27k11 => intro w hSw; (try dsimp only at hSw); go_simp; try with_reducible rfl
              try simp only [Act.put, List.setIfInBounds_toArray, List.set_cons_zero, List.set_cons_succ]
              have BG := Lib.hid (BV.out.mono (Nat.le_succ g))
              refine wpAnyH_ready (rs := [13]) (by kernel_rfl) (by simp) (AllReadyH.cons (o := { dst := none, op := Op.store 3 (Operand.tmp 17) (Operand.tmp 10), type := 0, pos := "ref.go:74", after := #[{ on := 12, ground := Ground.data }, { on := 5, ground := Ground.data }, { on := 10, ground := Ground.chain }, { on := 0, ground := Ground.phase }, { on := 1, ground := Ground.phase }, { on := 2, ground := Ground.phase }, { on := 3, ground := Ground.phase }, { on := 4, ground := Ground.phase }, { on := 5, ground := Ground.phase }, { on := 6, ground := Ground.phase }, { on := 7, ground := Ground.phase }, { on := 8, ground := Ground.phase }, { on := 9, ground := Ground.phase }, { on := 10, ground := Ground.textOnly Departure.lateStoresUnsure }, { on := 11, ground := Ground.textOnly Departure.lateStoresUnsure }], guard := none }) rfl (fun K hK => ?_) (AllReadyH.nil))
              · obtain ⟨c0, c1, c2, c3, c4, fz⟩ := FW.out.facts
                have f2 := fz 2
                have f3 := fz 3
                clear fz
                go_simp
                clear c0 c1 c2 c3 c4 f2 f3
                rw [MXE.out]
                have fw := heap_setCell_same _ g 2 _ _ (.int .i64 (nmn l m)) FW.out
                have bg := BG.out.trans ((Below.refl g y28).setCell (p := ⟨g, 2, none⟩) (Nat.le_refl _) (.int .i64 (nmn l m)))
                generalize y28.setCell ⟨g, 2, none⟩ (.int .i64 (nmn l m)) = y29 at *
                have FW := Lib.hid (show FmC y29 g l h (nmn l m) x false from fw)
                have BG := Lib.hid bg
                clear fw bg hHeld
                refine hK.out _ _ (FA.out _ _ _ FW.out) (fun hHeld => ?_)
                clear hK K
                try simp only [Act.put, List.setIfInBounds_toArray, List.set_cons_zero, List.set_cons_succ]
                refine wpAnyH_take (i := 14) (oi := { dst := some 18, op := Op.fieldAddr 65 (Operand.tmp 3) 3, type := 0, pos := "ref.go:74", after := #[{ on := 0, ground := Ground.phase }, { on := 1, ground := Ground.phase }, { on := 2, ground := Ground.phase }, { on := 3, ground := Ground.phase }, { on := 4, ground := Ground.phase }, { on := 5, ground := Ground.phase }, { on := 6, ground := Ground.phase }, { on := 7, ground := Ground.phase }, { on := 8, ground := Ground.phase }, { on := 9, ground := Ground.phase }, { on := 10, ground := Ground.phase }, { on := 11, ground := Ground.phase }, { on := 12, ground := Ground.phase }, { on := 13, ground := Ground.phase }], guard := none }) (v := ?vn28k14) rfl (by kernel_rfl) (by kernel_rfl) (by kernel_rfl) (fun _ _ _ h => h) (Or.inl ⟨by kernel_rfl, ?yn28k14⟩) (by assumption) ?rn28k14
                case yn28k14 => intro w hSw; (try dsimp only at hSw); go_simp; try with_reducible rfl
                try simp only [Act.put, List.setIfInBounds_toArray, List.set_cons_zero, List.set_cons_succ]
                refine wpAnyH_ready (rs := [15]) (by kernel_rfl) (by simp) (AllReadyH.cons (o := { dst := none, op := Op.store 3 (Operand.tmp 18) (Operand.tmp 16), type := 0, pos := "ref.go:74", after := #[{ on := 14, ground := Ground.data }, { on := 11, ground := Ground.data }, { on := 13, ground := Ground.chain }, { on := 0, ground := Ground.phase }, { on := 1, ground := Ground.phase }, { on := 2, ground := Ground.phase }, { on := 3, ground := Ground.phase }, { on := 4, ground := Ground.phase }, { on := 5, ground := Ground.phase }, { on := 6, ground := Ground.phase }, { on := 7, ground := Ground.phase }, { on := 8, ground := Ground.phase }, { on := 9, ground := Ground.phase }, { on := 10, ground := Ground.phase }, { on := 11, ground := Ground.phase }, { on := 12, ground := Ground.phase }, { on := 13, ground := Ground.phase }], guard := none }) rfl (fun K hK => ?_) (AllReadyH.nil))
                · obtain ⟨c0, c1, c2, c3, c4, fz⟩ := FW.out.facts
                  have f2 := fz 2
                  have f3 := fz 3
                  clear fz
                  go_simp
                  clear c0 c1 c2 c3 c4 f2 f3
                  rw [MNE.out]
                  have fw := heap_setCell_same _ g 3 _ _ (.int .i64 (nmx h x)) FW.out
                  have bg := BG.out.trans ((Below.refl g y29).setCell (p := ⟨g, 3, none⟩) (Nat.le_refl _) (.int .i64 (nmx h x)))
                  generalize y29.setCell ⟨g, 3, none⟩ (.int .i64 (nmx h x)) = y30 at *
                  have FW := Lib.hid (show FmC y30 g l h (nmn l m) (nmx h x) false from fw)
                  have BG := Lib.hid bg
                  clear fw bg hHeld
                  refine hK.out _ _ (FA.out _ _ _ FW.out) (fun hHeld => ?_)
                  clear hK K
                  try simp only [Act.put, List.setIfInBounds_toArray, List.set_cons_zero, List.set_cons_succ]
                  refine wpAnyH_done (by kernel_rfl) ?_ _
                  go_wp2_with fail
                  go_meet
                  exact ⟨FW.out, BG.out⟩
          · go_simp
            refine (SH.out _).mono ?_
            rintro e y31 ⟨rfl, hb⟩
            clear hHeld
            have FW := Lib.hid (FW.out.at (hb.block g (by omega)))
            have BV := Lib.hid (BV.out.trans (hb.mono hv2))
            have hv2 : g + 1 ≤ y31.heap.size := Nat.le_trans hv2 hb.size
            clear hb
            refine hK.out _ _ (FA.out _ _ _ FW.out) (fun hHeld => ?_)
            clear hK K
            try simp only [Act.put, List.setIfInBounds_toArray, List.set_cons_zero, List.set_cons_succ]
            refine wpAnyH_take (i := 11) (oi := { dst := some 16, op := Op.call { callee := Callee.builtin Builtin.min, args := #[Operand.tmp 12, Operand.tmp 15], argTypes := #[3, 3] }, type := 3, pos := "ref.go:74", after := #[{ on := 7, ground := Ground.data }, { on := 10, ground := Ground.data }], guard := none }) (v := ?vn29k11) rfl (by kernel_rfl) (by kernel_rfl) (by kernel_rfl) (fun _ _ _ h => h) (Or.inl ⟨by kernel_rfl, ?yn29k11⟩) (by assumption) ?rn29k11
            case yn29k11 => intro w hSw; (try dsimp only at hSw); go_simp; try with_reducible rfl
            try simp only [Act.put, List.setIfInBounds_toArray, List.set_cons_zero, List.set_cons_succ]
            refine wpAnyH_ready (rs := [1]) (by kernel_rfl) (by simp) (AllReadyH.cons (o := { dst := some 6, op := Op.load 3 (Operand.tmp 5), type := 3, pos := "ref.go:74", after := #[{ on := 0, ground := Ground.data }], guard := none }) rfl (fun K hK => ?_) (AllReadyH.nil))
            · obtain ⟨c0, c1, c2, c3, c4, fz⟩ := FW.out.facts
              have f2 := fz 2
              have f3 := fz 3
              clear fz
              go_simp
              clear c0 c1 c2 c3 c4 f2 f3
              clear hHeld
              refine hK.out _ _ (FA.out _ _ _ FW.out) (fun hHeld => ?_)
              clear hK K
              try simp only [Act.put, List.setIfInBounds_toArray, List.set_cons_zero, List.set_cons_succ]
              refine wpAnyH_take (i := 5) (oi := { dst := some 10, op := Op.call { callee := Callee.builtin Builtin.max, args := #[Operand.tmp 6, Operand.tmp 9], argTypes := #[3, 3] }, type := 3, pos := "ref.go:74", after := #[{ on := 1, ground := Ground.data }, { on := 4, ground := Ground.data }], guard := none }) (v := ?vn30k5) rfl (by kernel_rfl) (by kernel_rfl) (by kernel_rfl) (fun _ _ _ h => h) (Or.inl ⟨by kernel_rfl, ?yn30k5⟩) (by assumption) ?rn30k5
              case yn30k5 => intro w hSw; (try dsimp only at hSw); go_simp; try with_reducible rfl
              try simp only [Act.put, List.setIfInBounds_toArray, List.set_cons_zero, List.set_cons_succ]
              refine wpAnyH_take (i := 12) (oi := { dst := some 17, op := Op.fieldAddr 65 (Operand.tmp 3) 2, type := 0, pos := "ref.go:74", after := #[{ on := 0, ground := Ground.phase }, { on := 1, ground := Ground.phase }, { on := 2, ground := Ground.phase }, { on := 3, ground := Ground.phase }, { on := 4, ground := Ground.phase }, { on := 5, ground := Ground.phase }, { on := 6, ground := Ground.phase }, { on := 7, ground := Ground.phase }, { on := 8, ground := Ground.phase }, { on := 9, ground := Ground.phase }, { on := 10, ground := Ground.textOnly Departure.lateStoresUnsure }, { on := 11, ground := Ground.textOnly Departure.lateStoresUnsure }], guard := none }) (v := ?vn31k12) rfl (by kernel_rfl) (by kernel_rfl) (by kernel_rfl) (fun _ _ _ h => h) (Or.inl ⟨by kernel_rfl, ?yn31k12⟩) (by assumption) ?rn31k12
              case yn31k12 => intro w hSw; (try dsimp only at hSw); go_simp; try with_reducible rfl
              try simp only [Act.put, List.setIfInBounds_toArray, List.set_cons_zero, List.set_cons_succ]
              have BG := Lib.hid (BV.out.mono (Nat.le_succ g))
              refine wpAnyH_ready (rs := [13]) (by kernel_rfl) (by simp) (AllReadyH.cons (o := { dst := none, op := Op.store 3 (Operand.tmp 17) (Operand.tmp 10), type := 0, pos := "ref.go:74", after := #[{ on := 12, ground := Ground.data }, { on := 5, ground := Ground.data }, { on := 10, ground := Ground.chain }, { on := 0, ground := Ground.phase }, { on := 1, ground := Ground.phase }, { on := 2, ground := Ground.phase }, { on := 3, ground := Ground.phase }, { on := 4, ground := Ground.phase }, { on := 5, ground := Ground.phase }, { on := 6, ground := Ground.phase }, { on := 7, ground := Ground.phase }, { on := 8, ground := Ground.phase }, { on := 9, ground := Ground.phase }, { on := 10, ground := Ground.textOnly Departure.lateStoresUnsure }, { on := 11, ground := Ground.textOnly Departure.lateStoresUnsure }], guard := none }) rfl (fun K hK => ?_) (AllReadyH.nil))
              · obtain ⟨c0, c1, c2, c3, c4, fz⟩ := FW.out.facts
                have f2 := fz 2
                have f3 := fz 3
                clear fz
                go_simp
                clear c0 c1 c2 c3 c4 f2 f3
                rw [MXE.out]
                have fw := heap_setCell_same _ g 2 _ _ (.int .i64 (nmn l m)) FW.out
                have bg := BG.out.trans ((Below.refl g y31).setCell (p := ⟨g, 2, none⟩) (Nat.le_refl _) (.int .i64 (nmn l m)))
                generalize y31.setCell ⟨g, 2, none⟩ (.int .i64 (nmn l m)) = y33 at *
                have FW := Lib.hid (show FmC y33 g l h (nmn l m) x false from fw)
                have BG := Lib.hid bg
                clear fw bg hHeld
                refine hK.out _ _ (FA.out _ _ _ FW.out) (fun hHeld => ?_)
                clear hK K
                try simp only [Act.put, List.setIfInBounds_toArray, List.set_cons_zero, List.set_cons_succ]
                refine wpAnyH_take (i := 14) (oi := { dst := some 18, op := Op.fieldAddr 65 (Operand.tmp 3) 3, type := 0, pos := "ref.go:74", after := #[{ on := 0, ground := Ground.phase }, { on := 1, ground := Ground.phase }, { on := 2, ground := Ground.phase }, { on := 3, ground := Ground.phase }, { on := 4, ground := Ground.phase }, { on := 5, ground := Ground.phase }, { on := 6, ground := Ground.phase }, { on := 7, ground := Ground.phase }, { on := 8, ground := Ground.phase }, { on := 9, ground := Ground.phase }, { on := 10, ground := Ground.phase }, { on := 11, ground := Ground.phase }, { on := 12, ground := Ground.phase }, { on := 13, ground := Ground.phase }], guard := none }) (v := ?vn32k14) rfl (by kernel_rfl) (by kernel_rfl) (by kernel_rfl) (fun _ _ _ h => h) (Or.inl ⟨by kernel_rfl, ?yn32k14⟩) (by assumption) ?rn32k14
                case yn32k14 => intro w hSw; (try dsimp only at hSw); go_simp; try with_reducible rfl
                try simp only [Act.put, List.setIfInBounds_toArray, List.set_cons_zero, List.set_cons_succ]
                refine wpAnyH_ready (rs := [15]) (by kernel_rfl) (by simp) (AllReadyH.cons (o := { dst := none, op := Op.store 3 (Operand.tmp 18) (Operand.tmp 16), type := 0, pos := "ref.go:74", after := #[{ on := 14, ground := Ground.data }, { on := 11, ground := Ground.data }, { on := 13, ground := Ground.chain }, { on := 0, ground := Ground.phase }, { on := 1, ground := Ground.phase }, { on := 2, ground := Ground.phase }, { on := 3, ground := Ground.phase }, { on := 4, ground := Ground.phase }, { on := 5, ground := Ground.phase }, { on := 6, ground := Ground.phase }, { on := 7, ground := Ground.phase }, { on := 8, ground := Ground.phase }, { on := 9, ground := Ground.phase }, { on := 10, ground := Ground.phase }, { on := 11, ground := Ground.phase }, { on := 12, ground := Ground.phase }, { on := 13, ground := Ground.phase }], guard := none }) rfl (fun K hK => ?_) (AllReadyH.nil))
                · obtain ⟨c0, c1, c2, c3, c4, fz⟩ := FW.out.facts
                  have f2 := fz 2
                  have f3 := fz 3
                  clear fz
                  go_simp
                  clear c0 c1 c2 c3 c4 f2 f3
                  rw [MNE.out]
                  have fw := heap_setCell_same _ g 3 _ _ (.int .i64 (nmx h x)) FW.out
                  have bg := BG.out.trans ((Below.refl g y33).setCell (p := ⟨g, 3, none⟩) (Nat.le_refl _) (.int .i64 (nmx h x)))
                  generalize y33.setCell ⟨g, 3, none⟩ (.int .i64 (nmx h x)) = y34 at *
                  have FW := Lib.hid (show FmC y34 g l h (nmn l m) (nmx h x) false from fw)
                  have BG := Lib.hid bg
                  clear fw bg hHeld
                  refine hK.out _ _ (FA.out _ _ _ FW.out) (fun hHeld => ?_)
                  clear hK K
                  try simp only [Act.put, List.setIfInBounds_toArray, List.set_cons_zero, List.set_cons_succ]
                  refine wpAnyH_done (by kernel_rfl) ?_ _
                  go_wp2_with fail
                  go_meet
                  exact ⟨FW.out, BG.out⟩
        · go_simp
          refine (SH.out _).mono ?_
          rintro e y35 ⟨rfl, hb⟩
          clear hHeld
          have FW := Lib.hid (FW.out.at (hb.block g (by omega)))
          have BV := Lib.hid (BV.out.trans (hb.mono hv2))
          have hv2 : g + 1 ≤ y35.heap.size := Nat.le_trans hv2 hb.size
          clear hb
          refine hK.out _ _ (FA.out _ _ _ FW.out) (fun hHeld => ?_)
          clear hK K
          try simp only [Act.put, List.setIfInBounds_toArray, List.set_cons_zero, List.set_cons_succ]
          refine wpAnyH_ready (rs := [1, 7]) (by kernel_rfl) (by simp) (AllReadyH.cons (o := { dst := some 6, op := Op.load 3 (Operand.tmp 5), type := 3, pos := "ref.go:74", after := #[{ on := 0, ground := Ground.data }], guard := none }) rfl (fun K hK => ?_) (AllReadyH.cons (o := { dst := some 12, op := Op.load 3 (Operand.tmp 11), type := 3, pos := "ref.go:74", after := #[{ on := 6, ground := Ground.data }], guard := none }) rfl (fun K hK => ?_) (AllReadyH.nil)))
          · obtain ⟨c0, c1, c2, c3, c4, fz⟩ := FW.out.facts
            have f2 := fz 2
            have f3 := fz 3
            clear fz
            go_simp
            clear c0 c1 c2 c3 c4 f2 f3
            clear hHeld
            refine hK.out _ _ (FA.out _ _ _ FW.out) (fun hHeld => ?_)
            clear hK K
            try simp only [Act.put, List.setIfInBounds_toArray, List.set_cons_zero, List.set_cons_succ]
            refine wpAnyH_take (i := 5) (oi := { dst := some 10, op := Op.call { callee := Callee.builtin Builtin.max, args := #[Operand.tmp 6, Operand.tmp 9], argTypes := #[3, 3] }, type := 3, pos := "ref.go:74", after := #[{ on := 1, ground := Ground.data }, { on := 4, ground := Ground.data }], guard := none }) (v := ?vn33k5) rfl (by kernel_rfl) (by kernel_rfl) (by kernel_rfl) (fun _ _ _ h => h) (Or.inl ⟨by kernel_rfl, ?yn33k5⟩) (by assumption) ?rn33k5
            case yn33k5 => intro w hSw; (try dsimp only at hSw); go_simp; try with_reducible rfl
            try simp only [Act.put, List.setIfInBounds_toArray, List.set_cons_zero, List.set_cons_succ]
            refine wpAnyH_ready (rs := [7]) (by kernel_rfl) (by simp) (AllReadyH.cons (o := { dst := some 12, op := Op.load 3 (Operand.tmp 11), type := 3, pos := "ref.go:74", after := #[{ on := 6, ground := Ground.data }], guard := none }) rfl (fun K hK => ?_) (AllReadyH.nil))
            · obtain ⟨c0, c1, c2, c3, c4, fz⟩ := FW.out.facts
              have f2 := fz 2
              have f3 := fz 3
              clear fz
              go_simp
              clear c0 c1 c2 c3 c4 f2 f3
              clear hHeld
              refine hK.out _ _ (FA.out _ _ _ FW.out) (fun hHeld => ?_)
              clear hK K
              try simp only [Act.put, List.setIfInBounds_toArray, List.set_cons_zero, List.set_cons_succ]
              refine wpAnyH_take (i := 11) (oi := { dst := some 16, op := Op.call { callee := Callee.builtin Builtin.min, args := #[Operand.tmp 12, Operand.tmp 15], argTypes := #[3, 3] }, type := 3, pos := "ref.go:74", after := #[{ on := 7, ground := Ground.data }, { on := 10, ground := Ground.data }], guard := none }) (v := ?vn34k11) rfl (by kernel_rfl) (by kernel_rfl) (by kernel_rfl) (fun _ _ _ h => h) (Or.inl ⟨by kernel_rfl, ?yn34k11⟩) (by assumption) ?rn34k11
              case yn34k11 => intro w hSw; (try dsimp only at hSw); go_simp; try with_reducible rfl
              try simp only [Act.put, List.setIfInBounds_toArray, List.set_cons_zero, List.set_cons_succ]
              refine wpAnyH_take (i := 12) (oi := { dst := some 17, op := Op.fieldAddr 65 (Operand.tmp 3) 2, type := 0, pos := "ref.go:74", after := #[{ on := 0, ground := Ground.phase }, { on := 1, ground := Ground.phase }, { on := 2, ground := Ground.phase }, { on := 3, ground := Ground.phase }, { on := 4, ground := Ground.phase }, { on := 5, ground := Ground.phase }, { on := 6, ground := Ground.phase }, { on := 7, ground := Ground.phase }, { on := 8, ground := Ground.phase }, { on := 9, ground := Ground.phase }, { on := 10, ground := Ground.textOnly Departure.lateStoresUnsure }, { on := 11, ground := Ground.textOnly Departure.lateStoresUnsure }], guard := none }) (v := ?vn35k12) rfl (by kernel_rfl) (by kernel_rfl) (by kernel_rfl) (fun _ _ _ h => h) (Or.inl ⟨by kernel_rfl, ?yn35k12⟩) (by assumption) ?rn35k12
              case yn35k12 => intro w hSw; (try dsimp only at hSw); go_simp; try with_reducible rfl
              try simp only [Act.put, List.setIfInBounds_toArray, List.set_cons_zero, List.set_cons_succ]
              have BG := Lib.hid (BV.out.mono (Nat.le_succ g))
              refine wpAnyH_ready (rs := [13]) (by kernel_rfl) (by simp) (AllReadyH.cons (o := { dst := none, op := Op.store 3 (Operand.tmp 17) (Operand.tmp 10), type := 0, pos := "ref.go:74", after := #[{ on := 12, ground := Ground.data }, { on := 5, ground := Ground.data }, { on := 10, ground := Ground.chain }, { on := 0, ground := Ground.phase }, { on := 1, ground := Ground.phase }, { on := 2, ground := Ground.phase }, { on := 3, ground := Ground.phase }, { on := 4, ground := Ground.phase }, { on := 5, ground := Ground.phase }, { on := 6, ground := Ground.phase }, { on := 7, ground := Ground.phase }, { on := 8, ground := Ground.phase }, { on := 9, ground := Ground.phase }, { on := 10, ground := Ground.textOnly Departure.lateStoresUnsure }, { on := 11, ground := Ground.textOnly Departure.lateStoresUnsure }], guard := none }) rfl (fun K hK => ?_) (AllReadyH.nil))
              · obtain ⟨c0, c1, c2, c3, c4, fz⟩ := FW.out.facts
                have f2 := fz 2
                have f3 := fz 3
                clear fz
                go_simp
                clear c0 c1 c2 c3 c4 f2 f3
                rw [MXE.out]
                have fw := heap_setCell_same _ g 2 _ _ (.int .i64 (nmn l m)) FW.out
                have bg := BG.out.trans ((Below.refl g y35).setCell (p := ⟨g, 2, none⟩) (Nat.le_refl _) (.int .i64 (nmn l m)))
                generalize y35.setCell ⟨g, 2, none⟩ (.int .i64 (nmn l m)) = y38 at *
                have FW := Lib.hid (show FmC y38 g l h (nmn l m) x false from fw)
                have BG := Lib.hid bg
                clear fw bg hHeld
                refine hK.out _ _ (FA.out _ _ _ FW.out) (fun hHeld => ?_)
                clear hK K
                try simp only [Act.put, List.setIfInBounds_toArray, List.set_cons_zero, List.set_cons_succ]
                refine wpAnyH_take (i := 14) (oi := { dst := some 18, op := Op.fieldAddr 65 (Operand.tmp 3) 3, type := 0, pos := "ref.go:74", after := #[{ on := 0, ground := Ground.phase }, { on := 1, ground := Ground.phase }, { on := 2, ground := Ground.phase }, { on := 3, ground := Ground.phase }, { on := 4, ground := Ground.phase }, { on := 5, ground := Ground.phase }, { on := 6, ground := Ground.phase }, { on := 7, ground := Ground.phase }, { on := 8, ground := Ground.phase }, { on := 9, ground := Ground.phase }, { on := 10, ground := Ground.phase }, { on := 11, ground := Ground.phase }, { on := 12, ground := Ground.phase }, { on := 13, ground := Ground.phase }], guard := none }) (v := ?vn36k14) rfl (by kernel_rfl) (by kernel_rfl) (by kernel_rfl) (fun _ _ _ h => h) (Or.inl ⟨by kernel_rfl, ?yn36k14⟩) (by assumption) ?rn36k14
                case yn36k14 => intro w hSw; (try dsimp only at hSw); go_simp; try with_reducible rfl
                try simp only [Act.put, List.setIfInBounds_toArray, List.set_cons_zero, List.set_cons_succ]
                refine wpAnyH_ready (rs := [15]) (by kernel_rfl) (by simp) (AllReadyH.cons (o := { dst := none, op := Op.store 3 (Operand.tmp 18) (Operand.tmp 16), type := 0, pos := "ref.go:74", after := #[{ on := 14, ground := Ground.data }, { on := 11, ground := Ground.data }, { on := 13, ground := Ground.chain }, { on := 0, ground := Ground.phase }, { on := 1, ground := Ground.phase }, { on := 2, ground := Ground.phase }, { on := 3, ground := Ground.phase }, { on := 4, ground := Ground.phase }, { on := 5, ground := Ground.phase }, { on := 6, ground := Ground.phase }, { on := 7, ground := Ground.phase }, { on := 8, ground := Ground.phase }, { on := 9, ground := Ground.phase }, { on := 10, ground := Ground.phase }, { on := 11, ground := Ground.phase }, { on := 12, ground := Ground.phase }, { on := 13, ground := Ground.phase }], guard := none }) rfl (fun K hK => ?_) (AllReadyH.nil))
                · obtain ⟨c0, c1, c2, c3, c4, fz⟩ := FW.out.facts
                  have f2 := fz 2
                  have f3 := fz 3
                  clear fz
                  go_simp
                  clear c0 c1 c2 c3 c4 f2 f3
                  rw [MNE.out]
                  have fw := heap_setCell_same _ g 3 _ _ (.int .i64 (nmx h x)) FW.out
                  have bg := BG.out.trans ((Below.refl g y38).setCell (p := ⟨g, 3, none⟩) (Nat.le_refl _) (.int .i64 (nmx h x)))
                  generalize y38.setCell ⟨g, 3, none⟩ (.int .i64 (nmx h x)) = y39 at *
                  have FW := Lib.hid (show FmC y39 g l h (nmn l m) (nmx h x) false from fw)
                  have BG := Lib.hid bg
                  clear fw bg hHeld
                  refine hK.out _ _ (FA.out _ _ _ FW.out) (fun hHeld => ?_)
                  clear hK K
                  try simp only [Act.put, List.setIfInBounds_toArray, List.set_cons_zero, List.set_cons_succ]
                  refine wpAnyH_done (by kernel_rfl) ?_ _
                  go_wp2_with fail
                  go_meet
                  exact ⟨FW.out, BG.out⟩
          · obtain ⟨c0, c1, c2, c3, c4, fz⟩ := FW.out.facts
            have f2 := fz 2
            have f3 := fz 3
            clear fz
            go_simp
            clear c0 c1 c2 c3 c4 f2 f3
            clear hHeld
            refine hK.out _ _ (FA.out _ _ _ FW.out) (fun hHeld => ?_)
            clear hK K
            try simp only [Act.put, List.setIfInBounds_toArray, List.set_cons_zero, List.set_cons_succ]
            refine wpAnyH_take (i := 11) (oi := { dst := some 16, op := Op.call { callee := Callee.builtin Builtin.min, args := #[Operand.tmp 12, Operand.tmp 15], argTypes := #[3, 3] }, type := 3, pos := "ref.go:74", after := #[{ on := 7, ground := Ground.data }, { on := 10, ground := Ground.data }], guard := none }) (v := ?vn37k11) rfl (by kernel_rfl) (by kernel_rfl) (by kernel_rfl) (fun _ _ _ h => h) (Or.inl ⟨by kernel_rfl, ?yn37k11⟩) (by assumption) ?rn37k11
            case yn37k11 => intro w hSw; (try dsimp only at hSw); go_simp; try with_reducible rfl
            try simp only [Act.put, List.setIfInBounds_toArray, List.set_cons_zero, List.set_cons_succ]
            refine wpAnyH_ready (rs := [1]) (by kernel_rfl) (by simp) (AllReadyH.cons (o := { dst := some 6, op := Op.load 3 (Operand.tmp 5), type := 3, pos := "ref.go:74", after := #[{ on := 0, ground := Ground.data }], guard := none }) rfl (fun K hK => ?_) (AllReadyH.nil))
            · obtain ⟨c0, c1, c2, c3, c4, fz⟩ := FW.out.facts
              have f2 := fz 2
              have f3 := fz 3
              clear fz
              go_simp
              clear c0 c1 c2 c3 c4 f2 f3
              clear hHeld
              refine hK.out _ _ (FA.out _ _ _ FW.out) (fun hHeld => ?_)
              clear hK K
              try simp only [Act.put, List.setIfInBounds_toArray, List.set_cons_zero, List.set_cons_succ]
              refine wpAnyH_take (i := 5) (oi := { dst := some 10, op := Op.call { callee := Callee.builtin Builtin.max, args := #[Operand.tmp 6, Operand.tmp 9], argTypes := #[3, 3] }, type := 3, pos := "ref.go:74", after := #[{ on := 1, ground := Ground.data }, { on := 4, ground := Ground.data }], guard := none }) (v := ?vn38k5) rfl (by kernel_rfl) (by kernel_rfl) (by kernel_rfl) (fun _ _ _ h => h) (Or.inl ⟨by kernel_rfl, ?yn38k5⟩) (by assumption) ?rn38k5
              case yn38k5 => intro w hSw; (try dsimp only at hSw); go_simp; try with_reducible rfl
              try simp only [Act.put, List.setIfInBounds_toArray, List.set_cons_zero, List.set_cons_succ]
              refine wpAnyH_take (i := 12) (oi := { dst := some 17, op := Op.fieldAddr 65 (Operand.tmp 3) 2, type := 0, pos := "ref.go:74", after := #[{ on := 0, ground := Ground.phase }, { on := 1, ground := Ground.phase }, { on := 2, ground := Ground.phase }, { on := 3, ground := Ground.phase }, { on := 4, ground := Ground.phase }, { on := 5, ground := Ground.phase }, { on := 6, ground := Ground.phase }, { on := 7, ground := Ground.phase }, { on := 8, ground := Ground.phase }, { on := 9, ground := Ground.phase }, { on := 10, ground := Ground.textOnly Departure.lateStoresUnsure }, { on := 11, ground := Ground.textOnly Departure.lateStoresUnsure }], guard := none }) (v := ?vn39k12) rfl (by kernel_rfl) (by kernel_rfl) (by kernel_rfl) (fun _ _ _ h => h) (Or.inl ⟨by kernel_rfl, ?yn39k12⟩) (by assumption) ?rn39k12
              case yn39k12 => intro w hSw; (try dsimp only at hSw); go_simp; try with_reducible rfl
              try simp only [Act.put, List.setIfInBounds_toArray, List.set_cons_zero, List.set_cons_succ]
              have BG := Lib.hid (BV.out.mono (Nat.le_succ g))
              refine wpAnyH_ready (rs := [13]) (by kernel_rfl) (by simp) (AllReadyH.cons (o := { dst := none, op := Op.store 3 (Operand.tmp 17) (Operand.tmp 10), type := 0, pos := "ref.go:74", after := #[{ on := 12, ground := Ground.data }, { on := 5, ground := Ground.data }, { on := 10, ground := Ground.chain }, { on := 0, ground := Ground.phase }, { on := 1, ground := Ground.phase }, { on := 2, ground := Ground.phase }, { on := 3, ground := Ground.phase }, { on := 4, ground := Ground.phase }, { on := 5, ground := Ground.phase }, { on := 6, ground := Ground.phase }, { on := 7, ground := Ground.phase }, { on := 8, ground := Ground.phase }, { on := 9, ground := Ground.phase }, { on := 10, ground := Ground.textOnly Departure.lateStoresUnsure }, { on := 11, ground := Ground.textOnly Departure.lateStoresUnsure }], guard := none }) rfl (fun K hK => ?_) (AllReadyH.nil))
              · obtain ⟨c0, c1, c2, c3, c4, fz⟩ := FW.out.facts
                have f2 := fz 2
                have f3 := fz 3
                clear fz
                go_simp
                clear c0 c1 c2 c3 c4 f2 f3
                rw [MXE.out]
                have fw := heap_setCell_same _ g 2 _ _ (.int .i64 (nmn l m)) FW.out
                have bg := BG.out.trans ((Below.refl g y35).setCell (p := ⟨g, 2, none⟩) (Nat.le_refl _) (.int .i64 (nmn l m)))
                generalize y35.setCell ⟨g, 2, none⟩ (.int .i64 (nmn l m)) = y42 at *
                have FW := Lib.hid (show FmC y42 g l h (nmn l m) x false from fw)
                have BG := Lib.hid bg
                clear fw bg hHeld
                refine hK.out _ _ (FA.out _ _ _ FW.out) (fun hHeld => ?_)
                clear hK K
                try simp only [Act.put, List.setIfInBounds_toArray, List.set_cons_zero, List.set_cons_succ]
                refine wpAnyH_take (i := 14) (oi := { dst := some 18, op := Op.fieldAddr 65 (Operand.tmp 3) 3, type := 0, pos := "ref.go:74", after := #[{ on := 0, ground := Ground.phase }, { on := 1, ground := Ground.phase }, { on := 2, ground := Ground.phase }, { on := 3, ground := Ground.phase }, { on := 4, ground := Ground.phase }, { on := 5, ground := Ground.phase }, { on := 6, ground := Ground.phase }, { on := 7, ground := Ground.phase }, { on := 8, ground := Ground.phase }, { on := 9, ground := Ground.phase }, { on := 10, ground := Ground.phase }, { on := 11, ground := Ground.phase }, { on := 12, ground := Ground.phase }, { on := 13, ground := Ground.phase }], guard := none }) (v := ?vn40k14) rfl (by kernel_rfl) (by kernel_rfl) (by kernel_rfl) (fun _ _ _ h => h) (Or.inl ⟨by kernel_rfl, ?yn40k14⟩) (by assumption) ?rn40k14
                case yn40k14 => intro w hSw; (try dsimp only at hSw); go_simp; try with_reducible rfl
                try simp only [Act.put, List.setIfInBounds_toArray, List.set_cons_zero, List.set_cons_succ]
                refine wpAnyH_ready (rs := [15]) (by kernel_rfl) (by simp) (AllReadyH.cons (o := { dst := none, op := Op.store 3 (Operand.tmp 18) (Operand.tmp 16), type := 0, pos := "ref.go:74", after := #[{ on := 14, ground := Ground.data }, { on := 11, ground := Ground.data }, { on := 13, ground := Ground.chain }, { on := 0, ground := Ground.phase }, { on := 1, ground := Ground.phase }, { on := 2, ground := Ground.phase }, { on := 3, ground := Ground.phase }, { on := 4, ground := Ground.phase }, { on := 5, ground := Ground.phase }, { on := 6, ground := Ground.phase }, { on := 7, ground := Ground.phase }, { on := 8, ground := Ground.phase }, { on := 9, ground := Ground.phase }, { on := 10, ground := Ground.phase }, { on := 11, ground := Ground.phase }, { on := 12, ground := Ground.phase }, { on := 13, ground := Ground.phase }], guard := none }) rfl (fun K hK => ?_) (AllReadyH.nil))
                · obtain ⟨c0, c1, c2, c3, c4, fz⟩ := FW.out.facts
                  have f2 := fz 2
                  have f3 := fz 3
                  clear fz
                  go_simp
                  clear c0 c1 c2 c3 c4 f2 f3
                  rw [MNE.out]
                  have fw := heap_setCell_same _ g 3 _ _ (.int .i64 (nmx h x)) FW.out
                  have bg := BG.out.trans ((Below.refl g y42).setCell (p := ⟨g, 3, none⟩) (Nat.le_refl _) (.int .i64 (nmx h x)))
                  generalize y42.setCell ⟨g, 3, none⟩ (.int .i64 (nmx h x)) = y43 at *
                  have FW := Lib.hid (show FmC y43 g l h (nmn l m) (nmx h x) false from fw)
                  have BG := Lib.hid bg
                  clear fw bg hHeld
                  refine hK.out _ _ (FA.out _ _ _ FW.out) (fun hHeld => ?_)
                  clear hK K
                  try simp only [Act.put, List.setIfInBounds_toArray, List.set_cons_zero, List.set_cons_succ]
                  refine wpAnyH_done (by kernel_rfl) ?_ _
                  go_wp2_with fail
                  go_meet
                  exact ⟨FW.out, BG.out⟩
      · obtain ⟨c0, c1, c2, c3, c4, fz⟩ := FW.out.facts
        have f2 := fz 2
        have f3 := fz 3
        clear fz
        go_simp
        clear c0 c1 c2 c3 c4 f2 f3
        clear hHeld
        refine hK.out _ _ (FA.out _ _ _ FW.out) (fun hHeld => ?_)
        clear hK K
        try simp only [Act.put, List.setIfInBounds_toArray, List.set_cons_zero, List.set_cons_succ]
        refine wpAnyH_ready (rs := [1, 4]) (by kernel_rfl) (by simp) (AllReadyH.cons (o := { dst := some 6, op := Op.load 3 (Operand.tmp 5), type := 3, pos := "ref.go:74", after := #[{ on := 0, ground := Ground.data }], guard := none }) rfl (fun K hK => ?_) (AllReadyH.cons (o := { dst := some 9, op := Op.call { callee := Callee.value (Operand.func 61), args := #[Operand.tmp 8], argTypes := #[52] }, type := 3, pos := "ref.go:74", after := #[{ on := 3, ground := Ground.data }], guard := none }) rfl (fun K hK => ?_) (AllReadyH.nil)))
        · obtain ⟨c0, c1, c2, c3, c4, fz⟩ := FW.out.facts
          have f2 := fz 2
          have f3 := fz 3
          clear fz
          go_simp
          clear c0 c1 c2 c3 c4 f2 f3
          clear hHeld
          refine hK.out _ _ (FA.out _ _ _ FW.out) (fun hHeld => ?_)
          clear hK K
          try simp only [Act.put, List.setIfInBounds_toArray, List.set_cons_zero, List.set_cons_succ]
          refine wpAnyH_ready (rs := [4]) (by kernel_rfl) (by simp) (AllReadyH.cons (o := { dst := some 9, op := Op.call { callee := Callee.value (Operand.func 61), args := #[Operand.tmp 8], argTypes := #[52] }, type := 3, pos := "ref.go:74", after := #[{ on := 3, ground := Ground.data }], guard := none }) rfl (fun K hK => ?_) (AllReadyH.nil))
          · go_simp
            refine (SL.out _).mono ?_
            rintro e y46 ⟨rfl, hb⟩
            clear hHeld
            have FW := Lib.hid (FW.out.at (hb.block g (by omega)))
            have BV := Lib.hid (BV.out.trans (hb.mono hv2))
            have hv2 : g + 1 ≤ y46.heap.size := Nat.le_trans hv2 hb.size
            clear hb
            refine hK.out _ _ (FA.out _ _ _ FW.out) (fun hHeld => ?_)
            clear hK K
            try simp only [Act.put, List.setIfInBounds_toArray, List.set_cons_zero, List.set_cons_succ]
            refine wpAnyH_take (i := 5) (oi := { dst := some 10, op := Op.call { callee := Callee.builtin Builtin.max, args := #[Operand.tmp 6, Operand.tmp 9], argTypes := #[3, 3] }, type := 3, pos := "ref.go:74", after := #[{ on := 1, ground := Ground.data }, { on := 4, ground := Ground.data }], guard := none }) (v := ?vn41k5) rfl (by kernel_rfl) (by kernel_rfl) (by kernel_rfl) (fun _ _ _ h => h) (Or.inl ⟨by kernel_rfl, ?yn41k5⟩) (by assumption) ?rn41k5
            case yn41k5 => intro w hSw; (try dsimp only at hSw); go_simp; try with_reducible rfl
            try simp only [Act.put, List.setIfInBounds_toArray, List.set_cons_zero, List.set_cons_succ]
            refine wpAnyH_take (i := 12) (oi := { dst := some 17, op := Op.fieldAddr 65 (Operand.tmp 3) 2, type := 0, pos := "ref.go:74", after := #[{ on := 0, ground := Ground.phase }, { on := 1, ground := Ground.phase }, { on := 2, ground := Ground.phase }, { on := 3, ground := Ground.phase }, { on := 4, ground := Ground.phase }, { on := 5, ground := Ground.phase }, { on := 6, ground := Ground.phase }, { on := 7, ground := Ground.phase }, { on := 8, ground := Ground.phase }, { on := 9, ground := Ground.phase }, { on := 10, ground := Ground.textOnly Departure.lateStoresUnsure }, { on := 11, ground := Ground.textOnly Departure.lateStoresUnsure }], guard := none }) (v := ?vn42k12) rfl (by kernel_rfl) (by kernel_rfl) (by kernel_rfl) (fun _ _ _ h => h) (Or.inl ⟨by kernel_rfl, ?yn42k12⟩) (by assumption) ?rn42k12
            case yn42k12 => intro w hSw; (try dsimp only at hSw); go_simp; try with_reducible rfl
            try simp only [Act.put, List.setIfInBounds_toArray, List.set_cons_zero, List.set_cons_succ]
            refine wpAnyH_ready (rs := [10]) (by kernel_rfl) (by simp) (AllReadyH.cons (o := { dst := some 15, op := Op.call { callee := Callee.value (Operand.func 61), args := #[Operand.tmp 14], argTypes := #[52] }, type := 3, pos := "ref.go:74", after := #[{ on := 9, ground := Ground.data }, { on := 4, ground := Ground.chain }], guard := none }) rfl (fun K hK => ?_) (AllReadyH.nil))
            · go_simp
              refine (SH.out _).mono ?_
              rintro e y47 ⟨rfl, hb⟩
              clear hHeld
              have FW := Lib.hid (FW.out.at (hb.block g (by omega)))
              have BV := Lib.hid (BV.out.trans (hb.mono hv2))
              have hv2 : g + 1 ≤ y47.heap.size := Nat.le_trans hv2 hb.size
              clear hb
              refine hK.out _ _ (FA.out _ _ _ FW.out) (fun hHeld => ?_)
              clear hK K
              try simp only [Act.put, List.setIfInBounds_toArray, List.set_cons_zero, List.set_cons_succ]
              refine wpAnyH_take (i := 11) (oi := { dst := some 16, op := Op.call { callee := Callee.builtin Builtin.min, args := #[Operand.tmp 12, Operand.tmp 15], argTypes := #[3, 3] }, type := 3, pos := "ref.go:74", after := #[{ on := 7, ground := Ground.data }, { on := 10, ground := Ground.data }], guard := none }) (v := ?vn43k11) rfl (by kernel_rfl) (by kernel_rfl) (by kernel_rfl) (fun _ _ _ h => h) (Or.inl ⟨by kernel_rfl, ?yn43k11⟩) (by assumption) ?rn43k11
              case yn43k11 => intro w hSw; (try dsimp only at hSw); go_simp; try with_reducible rfl
              try simp only [Act.put, List.setIfInBounds_toArray, List.set_cons_zero, List.set_cons_succ]
              have BG := Lib.hid (BV.out.mono (Nat.le_succ g))
              refine wpAnyH_ready (rs := [13]) (by kernel_rfl) (by simp) (AllReadyH.cons (o := { dst := none, op := Op.store 3 (Operand.tmp 17) (Operand.tmp 10), type := 0, pos := "ref.go:74", after := #[{ on := 12, ground := Ground.data }, { on := 5, ground := Ground.data }, { on := 10, ground := Ground.chain }, { on := 0, ground := Ground.phase }, { on := 1, ground := Ground.phase }, { on := 2, ground := Ground.phase }, { on := 3, ground := Ground.phase }, { on := 4, ground := Ground.phase }, { on := 5, ground := Ground.phase }, { on := 6, ground := Ground.phase }, { on := 7, ground := Ground.phase }, { on := 8, ground := Ground.phase }, { on := 9, ground := Ground.phase }, { on := 10, ground := Ground.textOnly Departure.lateStoresUnsure }, { on := 11, ground := Ground.textOnly Departure.lateStoresUnsure }], guard := none }) rfl (fun K hK => ?_) (AllReadyH.nil))
              · obtain ⟨c0, c1, c2, c3, c4, fz⟩ := FW.out.facts
                have f2 := fz 2
                have f3 := fz 3
                clear fz
                go_simp
                clear c0 c1 c2 c3 c4 f2 f3
                rw [MXE.out]
                have fw := heap_setCell_same _ g 2 _ _ (.int .i64 (nmn l m)) FW.out
                have bg := BG.out.trans ((Below.refl g y47).setCell (p := ⟨g, 2, none⟩) (Nat.le_refl _) (.int .i64 (nmn l m)))
                generalize y47.setCell ⟨g, 2, none⟩ (.int .i64 (nmn l m)) = y48 at *
                have FW := Lib.hid (show FmC y48 g l h (nmn l m) x false from fw)
                have BG := Lib.hid bg
                clear fw bg hHeld
                refine hK.out _ _ (FA.out _ _ _ FW.out) (fun hHeld => ?_)
                clear hK K
                try simp only [Act.put, List.setIfInBounds_toArray, List.set_cons_zero, List.set_cons_succ]
                refine wpAnyH_take (i := 14) (oi := { dst := some 18, op := Op.fieldAddr 65 (Operand.tmp 3) 3, type := 0, pos := "ref.go:74", after := #[{ on := 0, ground := Ground.phase }, { on := 1, ground := Ground.phase }, { on := 2, ground := Ground.phase }, { on := 3, ground := Ground.phase }, { on := 4, ground := Ground.phase }, { on := 5, ground := Ground.phase }, { on := 6, ground := Ground.phase }, { on := 7, ground := Ground.phase }, { on := 8, ground := Ground.phase }, { on := 9, ground := Ground.phase }, { on := 10, ground := Ground.phase }, { on := 11, ground := Ground.phase }, { on := 12, ground := Ground.phase }, { on := 13, ground := Ground.phase }], guard := none }) (v := ?vn44k14) rfl (by kernel_rfl) (by kernel_rfl) (by kernel_rfl) (fun _ _ _ h => h) (Or.inl ⟨by kernel_rfl, ?yn44k14⟩) (by assumption) ?rn44k14
                case yn44k14 => intro w hSw; (try dsimp only at hSw); go_simp; try with_reducible rfl
                try simp only [Act.put, List.setIfInBounds_toArray, List.set_cons_zero, List.set_cons_succ]
                refine wpAnyH_ready (rs := [15]) (by kernel_rfl) (by simp) (AllReadyH.cons (o := { dst := none, op := Op.store 3 (Operand.tmp 18) (Operand.tmp 16), type := 0, pos := "ref.go:74", after := #[{ on := 14, ground := Ground.data }, { on := 11, ground := Ground.data }, { on := 13, ground := Ground.chain }, { on := 0, ground := Ground.phase }, { on := 1, ground := Ground.phase }, { on := 2, ground := Ground.phase }, { on := 3, ground := Ground.phase }, { on := 4, ground := Ground.phase }, { on := 5, ground := Ground.phase }, { on := 6, ground := Ground.phase }, { on := 7, ground := Ground.phase }, { on := 8, ground := Ground.phase }, { on := 9, ground := Ground.phase }, { on := 10, ground := Ground.phase }, { on := 11, ground := Ground.phase }, { on := 12, ground := Ground.phase }, { on := 13, ground := Ground.phase }], guard := none }) rfl (fun K hK => ?_) (AllReadyH.nil))
                · obtain ⟨c0, c1, c2, c3, c4, fz⟩ := FW.out.facts
                  have f2 := fz 2
                  have f3 := fz 3
                  clear fz
                  go_simp
                  clear c0 c1 c2 c3 c4 f2 f3
                  rw [MNE.out]
                  have fw := heap_setCell_same _ g 3 _ _ (.int .i64 (nmx h x)) FW.out
                  have bg := BG.out.trans ((Below.refl g y48).setCell (p := ⟨g, 3, none⟩) (Nat.le_refl _) (.int .i64 (nmx h x)))
                  generalize y48.setCell ⟨g, 3, none⟩ (.int .i64 (nmx h x)) = y49 at *
                  have FW := Lib.hid (show FmC y49 g l h (nmn l m) (nmx h x) false from fw)
                  have BG := Lib.hid bg
                  clear fw bg hHeld
                  refine hK.out _ _ (FA.out _ _ _ FW.out) (fun hHeld => ?_)
                  clear hK K
                  try simp only [Act.put, List.setIfInBounds_toArray, List.set_cons_zero, List.set_cons_succ]
                  refine wpAnyH_done (by kernel_rfl) ?_ _
                  go_wp2_with fail
                  go_meet
                  exact ⟨FW.out, BG.out⟩
        · go_simp
          refine (SL.out _).mono ?_
          rintro e y50 ⟨rfl, hb⟩
          clear hHeld
          have FW := Lib.hid (FW.out.at (hb.block g (by omega)))
          have BV := Lib.hid (BV.out.trans (hb.mono hv2))
          have hv2 : g + 1 ≤ y50.heap.size := Nat.le_trans hv2 hb.size
          clear hb
          refine hK.out _ _ (FA.out _ _ _ FW.out) (fun hHeld => ?_)
          clear hK K
          try simp only [Act.put, List.setIfInBounds_toArray, List.set_cons_zero, List.set_cons_succ]
          refine wpAnyH_ready (rs := [1, 10]) (by kernel_rfl) (by simp) (AllReadyH.cons (o := { dst := some 6, op := Op.load 3 (Operand.tmp 5), type := 3, pos := "ref.go:74", after := #[{ on := 0, ground := Ground.data }], guard := none }) rfl (fun K hK => ?_) (AllReadyH.cons (o := { dst := some 15, op := Op.call { callee := Callee.value (Operand.func 61), args := #[Operand.tmp 14], argTypes := #[52] }, type := 3, pos := "ref.go:74", after := #[{ on := 9, ground := Ground.data }, { on := 4, ground := Ground.chain }], guard := none }) rfl (fun K hK => ?_) (AllReadyH.nil)))
          · obtain ⟨c0, c1, c2, c3, c4, fz⟩ := FW.out.facts
            have f2 := fz 2
            have f3 := fz 3
            clear fz
            go_simp
            clear c0 c1 c2 c3 c4 f2 f3
            clear hHeld
            refine hK.out _ _ (FA.out _ _ _ FW.out) (fun hHeld => ?_)
            clear hK K
            try simp only [Act.put, List.setIfInBounds_toArray, List.set_cons_zero, List.set_cons_succ]
            refine wpAnyH_take (i := 5) (oi := { dst := some 10, op := Op.call { callee := Callee.builtin Builtin.max, args := #[Operand.tmp 6, Operand.tmp 9], argTypes := #[3, 3] }, type := 3, pos := "ref.go:74", after := #[{ on := 1, ground := Ground.data }, { on := 4, ground := Ground.data }], guard := none }) (v := ?vn45k5) rfl (by kernel_rfl) (by kernel_rfl) (by kernel_rfl) (fun _ _ _ h => h) (Or.inl ⟨by kernel_rfl, ?yn45k5⟩) (by assumption) ?rn45k5
            case yn45k5 => intro w hSw; (try dsimp only at hSw); go_simp; try with_reducible rfl
            try simp only [Act.put, List.setIfInBounds_toArray, List.set_cons_zero, List.set_cons_succ]
            refine wpAnyH_take (i := 12) (oi := { dst := some 17, op := Op.fieldAddr 65 (Operand.tmp 3) 2, type := 0, pos := "ref.go:74", after := #[{ on := 0, ground := Ground.phase }, { on := 1, ground := Ground.phase }, { on := 2, ground := Ground.phase }, { on := 3, ground := Ground.phase }, { on := 4, ground := Ground.phase }, { on := 5, ground := Ground.phase }, { on := 6, ground := Ground.phase }, { on := 7, ground := Ground.phase }, { on := 8, ground := Ground.phase }, { on := 9, ground := Ground.phase }, { on := 10, ground := Ground.textOnly Departure.lateStoresUnsure }, { on := 11, ground := Ground.textOnly Departure.lateStoresUnsure }], guard := none }) (v := ?vn46k12) rfl (by kernel_rfl) (by kernel_rfl) (by kernel_rfl) (fun _ _ _ h => h) (Or.inl ⟨by kernel_rfl, ?yn46k12⟩) (by assumption) ?rn46k12
            case yn46k12 => intro w hSw; (try dsimp only at hSw); go_simp; try with_reducible rfl
            try simp only [Act.put, List.setIfInBounds_toArray, List.set_cons_zero, List.set_cons_succ]
            refine wpAnyH_ready (rs := [10]) (by kernel_rfl) (by simp) (AllReadyH.cons (o := { dst := some 15, op := Op.call { callee := Callee.value (Operand.func 61), args := #[Operand.tmp 14], argTypes := #[52] }, type := 3, pos := "ref.go:74", after := #[{ on := 9, ground := Ground.data }, { on := 4, ground := Ground.chain }], guard := none }) rfl (fun K hK => ?_) (AllReadyH.nil))
            · go_simp
              refine (SH.out _).mono ?_
              rintro e y52 ⟨rfl, hb⟩
              clear hHeld
              have FW := Lib.hid (FW.out.at (hb.block g (by omega)))
              have BV := Lib.hid (BV.out.trans (hb.mono hv2))
              have hv2 : g + 1 ≤ y52.heap.size := Nat.le_trans hv2 hb.size
              clear hb
              refine hK.out _ _ (FA.out _ _ _ FW.out) (fun hHeld => ?_)
              clear hK K
              try simp only [Act.put, List.setIfInBounds_toArray, List.set_cons_zero, List.set_cons_succ]
              refine wpAnyH_take (i := 11) (oi := { dst := some 16, op := Op.call { callee := Callee.builtin Builtin.min, args := #[Operand.tmp 12, Operand.tmp 15], argTypes := #[3, 3] }, type := 3, pos := "ref.go:74", after := #[{ on := 7, ground := Ground.data }, { on := 10, ground := Ground.data }], guard := none }) (v := ?vn47k11) rfl (by kernel_rfl) (by kernel_rfl) (by kernel_rfl) (fun _ _ _ h => h) (Or.inl ⟨by kernel_rfl, ?yn47k11⟩) (by assumption) ?rn47k11
              case yn47k11 => intro w hSw; (try dsimp only at hSw); go_simp; try with_reducible rfl
              try simp only [Act.put, List.setIfInBounds_toArray, List.set_cons_zero, List.set_cons_succ]
              have BG := Lib.hid (BV.out.mono (Nat.le_succ g))
              refine wpAnyH_ready (rs := [13]) (by kernel_rfl) (by simp) (AllReadyH.cons (o := { dst := none, op := Op.store 3 (Operand.tmp 17) (Operand.tmp 10), type := 0, pos := "ref.go:74", after := #[{ on := 12, ground := Ground.data }, { on := 5, ground := Ground.data }, { on := 10, ground := Ground.chain }, { on := 0, ground := Ground.phase }, { on := 1, ground := Ground.phase }, { on := 2, ground := Ground.phase }, { on := 3, ground := Ground.phase }, { on := 4, ground := Ground.phase }, { on := 5, ground := Ground.phase }, { on := 6, ground := Ground.phase }, { on := 7, ground := Ground.phase }, { on := 8, ground := Ground.phase }, { on := 9, ground := Ground.phase }, { on := 10, ground := Ground.textOnly Departure.lateStoresUnsure }, { on := 11, ground := Ground.textOnly Departure.lateStoresUnsure }], guard := none }) rfl (fun K hK => ?_) (AllReadyH.nil))
              · obtain ⟨c0, c1, c2, c3, c4, fz⟩ := FW.out.facts
                have f2 := fz 2
                have f3 := fz 3
                clear fz
                go_simp
                clear c0 c1 c2 c3 c4 f2 f3
                rw [MXE.out]
                have fw := heap_setCell_same _ g 2 _ _ (.int .i64 (nmn l m)) FW.out
                have bg := BG.out.trans ((Below.refl g y52).setCell (p := ⟨g, 2, none⟩) (Nat.le_refl _) (.int .i64 (nmn l m)))
                generalize y52.setCell ⟨g, 2, none⟩ (.int .i64 (nmn l m)) = y53 at *
                have FW := Lib.hid (show FmC y53 g l h (nmn l m) x false from fw)
                have BG := Lib.hid bg
                clear fw bg hHeld
                refine hK.out _ _ (FA.out _ _ _ FW.out) (fun hHeld => ?_)
                clear hK K
                try simp only [Act.put, List.setIfInBounds_toArray, List.set_cons_zero, List.set_cons_succ]
                refine wpAnyH_take (i := 14) (oi := { dst := some 18, op := Op.fieldAddr 65 (Operand.tmp 3) 3, type := 0, pos := "ref.go:74", after := #[{ on := 0, ground := Ground.phase }, { on := 1, ground := Ground.phase }, { on := 2, ground := Ground.phase }, { on := 3, ground := Ground.phase }, { on := 4, ground := Ground.phase }, { on := 5, ground := Ground.phase }, { on := 6, ground := Ground.phase }, { on := 7, ground := Ground.phase }, { on := 8, ground := Ground.phase }, { on := 9, ground := Ground.phase }, { on := 10, ground := Ground.phase }, { on := 11, ground := Ground.phase }, { on := 12, ground := Ground.phase }, { on := 13, ground := Ground.phase }], guard := none }) (v := ?vn48k14) rfl (by kernel_rfl) (by kernel_rfl) (by kernel_rfl) (fun _ _ _ h => h) (Or.inl ⟨by kernel_rfl, ?yn48k14⟩) (by assumption) ?rn48k14
                case yn48k14 => intro w hSw; (try dsimp only at hSw); go_simp; try with_reducible rfl
                try simp only [Act.put, List.setIfInBounds_toArray, List.set_cons_zero, List.set_cons_succ]
                refine wpAnyH_ready (rs := [15]) (by kernel_rfl) (by simp) (AllReadyH.cons (o := { dst := none, op := Op.store 3 (Operand.tmp 18) (Operand.tmp 16), type := 0, pos := "ref.go:74", after := #[{ on := 14, ground := Ground.data }, { on := 11, ground := Ground.data }, { on := 13, ground := Ground.chain }, { on := 0, ground := Ground.phase }, { on := 1, ground := Ground.phase }, { on := 2, ground := Ground.phase }, { on := 3, ground := Ground.phase }, { on := 4, ground := Ground.phase }, { on := 5, ground := Ground.phase }, { on := 6, ground := Ground.phase }, { on := 7, ground := Ground.phase }, { on := 8, ground := Ground.phase }, { on := 9, ground := Ground.phase }, { on := 10, ground := Ground.phase }, { on := 11, ground := Ground.phase }, { on := 12, ground := Ground.phase }, { on := 13, ground := Ground.phase }], guard := none }) rfl (fun K hK => ?_) (AllReadyH.nil))
                · obtain ⟨c0, c1, c2, c3, c4, fz⟩ := FW.out.facts
                  have f2 := fz 2
                  have f3 := fz 3
                  clear fz
                  go_simp
                  clear c0 c1 c2 c3 c4 f2 f3
                  rw [MNE.out]
                  have fw := heap_setCell_same _ g 3 _ _ (.int .i64 (nmx h x)) FW.out
                  have bg := BG.out.trans ((Below.refl g y53).setCell (p := ⟨g, 3, none⟩) (Nat.le_refl _) (.int .i64 (nmx h x)))
                  generalize y53.setCell ⟨g, 3, none⟩ (.int .i64 (nmx h x)) = y54 at *
                  have FW := Lib.hid (show FmC y54 g l h (nmn l m) (nmx h x) false from fw)
                  have BG := Lib.hid bg
                  clear fw bg hHeld
                  refine hK.out _ _ (FA.out _ _ _ FW.out) (fun hHeld => ?_)
                  clear hK K
                  try simp only [Act.put, List.setIfInBounds_toArray, List.set_cons_zero, List.set_cons_succ]
                  refine wpAnyH_done (by kernel_rfl) ?_ _
                  go_wp2_with fail
                  go_meet
                  exact ⟨FW.out, BG.out⟩
          · go_simp
            refine (SH.out _).mono ?_
            rintro e y55 ⟨rfl, hb⟩
            clear hHeld
            have FW := Lib.hid (FW.out.at (hb.block g (by omega)))
            have BV := Lib.hid (BV.out.trans (hb.mono hv2))
            have hv2 : g + 1 ≤ y55.heap.size := Nat.le_trans hv2 hb.size
            clear hb
            refine hK.out _ _ (FA.out _ _ _ FW.out) (fun hHeld => ?_)
            clear hK K
            try simp only [Act.put, List.setIfInBounds_toArray, List.set_cons_zero, List.set_cons_succ]
            refine wpAnyH_take (i := 11) (oi := { dst := some 16, op := Op.call { callee := Callee.builtin Builtin.min, args := #[Operand.tmp 12, Operand.tmp 15], argTypes := #[3, 3] }, type := 3, pos := "ref.go:74", after := #[{ on := 7, ground := Ground.data }, { on := 10, ground := Ground.data }], guard := none }) (v := ?vn49k11) rfl (by kernel_rfl) (by kernel_rfl) (by kernel_rfl) (fun _ _ _ h => h) (Or.inl ⟨by kernel_rfl, ?yn49k11⟩) (by assumption) ?rn49k11
            case yn49k11 => intro w hSw; (try dsimp only at hSw); go_simp; try with_reducible rfl
            try simp only [Act.put, List.setIfInBounds_toArray, List.set_cons_zero, List.set_cons_succ]
            refine wpAnyH_ready (rs := [1]) (by kernel_rfl) (by simp) (AllReadyH.cons (o := { dst := some 6, op := Op.load 3 (Operand.tmp 5), type := 3, pos := "ref.go:74", after := #[{ on := 0, ground := Ground.data }], guard := none }) rfl (fun K hK => ?_) (AllReadyH.nil))
            · obtain ⟨c0, c1, c2, c3, c4, fz⟩ := FW.out.facts
              have f2 := fz 2
              have f3 := fz 3
              clear fz
              go_simp
              clear c0 c1 c2 c3 c4 f2 f3
              clear hHeld
              refine hK.out _ _ (FA.out _ _ _ FW.out) (fun hHeld => ?_)
              clear hK K
              try simp only [Act.put, List.setIfInBounds_toArray, List.set_cons_zero, List.set_cons_succ]
              refine wpAnyH_take (i := 5) (oi := { dst := some 10, op := Op.call { callee := Callee.builtin Builtin.max, args := #[Operand.tmp 6, Operand.tmp 9], argTypes := #[3, 3] }, type := 3, pos := "ref.go:74", after := #[{ on := 1, ground := Ground.data }, { on := 4, ground := Ground.data }], guard := none }) (v := ?vn50k5) rfl (by kernel_rfl) (by kernel_rfl) (by kernel_rfl) (fun _ _ _ h => h) (Or.inl ⟨by kernel_rfl, ?yn50k5⟩) (by assumption) ?rn50k5
              case yn50k5 => intro w hSw; (try dsimp only at hSw); go_simp; try with_reducible rfl
              try simp only [Act.put, List.setIfInBounds_toArray, List.set_cons_zero, List.set_cons_succ]
              refine wpAnyH_take (i := 12) (oi := { dst := some 17, op := Op.fieldAddr 65 (Operand.tmp 3) 2, type := 0, pos := "ref.go:74", after := #[{ on := 0, ground := Ground.phase }, { on := 1, ground := Ground.phase }, { on := 2, ground := Ground.phase }, { on := 3, ground := Ground.phase }, { on := 4, ground := Ground.phase }, { on := 5, ground := Ground.phase }, { on := 6, ground := Ground.phase }, { on := 7, ground := Ground.phase }, { on := 8, ground := Ground.phase }, { on := 9, ground := Ground.phase }, { on := 10, ground := Ground.textOnly Departure.lateStoresUnsure }, { on := 11, ground := Ground.textOnly Departure.lateStoresUnsure }], guard := none }) (v := ?vn51k12) rfl (by kernel_rfl) (by kernel_rfl) (by kernel_rfl) (fun _ _ _ h => h) (Or.inl ⟨by kernel_rfl, ?yn51k12⟩) (by assumption) ?rn51k12
              case yn51k12 => intro w hSw; (try dsimp only at hSw); go_simp; try with_reducible rfl
              try simp only [Act.put, List.setIfInBounds_toArray, List.set_cons_zero, List.set_cons_succ]
              have BG := Lib.hid (BV.out.mono (Nat.le_succ g))
              refine wpAnyH_ready (rs := [13]) (by kernel_rfl) (by simp) (AllReadyH.cons (o := { dst := none, op := Op.store 3 (Operand.tmp 17) (Operand.tmp 10), type := 0, pos := "ref.go:74", after := #[{ on := 12, ground := Ground.data }, { on := 5, ground := Ground.data }, { on := 10, ground := Ground.chain }, { on := 0, ground := Ground.phase }, { on := 1, ground := Ground.phase }, { on := 2, ground := Ground.phase }, { on := 3, ground := Ground.phase }, { on := 4, ground := Ground.phase }, { on := 5, ground := Ground.phase }, { on := 6, ground := Ground.phase }, { on := 7, ground := Ground.phase }, { on := 8, ground := Ground.phase }, { on := 9, ground := Ground.phase }, { on := 10, ground := Ground.textOnly Departure.lateStoresUnsure }, { on := 11, ground := Ground.textOnly Departure.lateStoresUnsure }], guard := none }) rfl (fun K hK => ?_) (AllReadyH.nil))
              · obtain ⟨c0, c1, c2, c3, c4, fz⟩ := FW.out.facts
                have f2 := fz 2
                have f3 := fz 3
                clear fz
                go_simp
                clear c0 c1 c2 c3 c4 f2 f3
                rw [MXE.out]
                have fw := heap_setCell_same _ g 2 _ _ (.int .i64 (nmn l m)) FW.out
                have bg := BG.out.trans ((Below.refl g y55).setCell (p := ⟨g, 2, none⟩) (Nat.le_refl _) (.int .i64 (nmn l m)))
                generalize y55.setCell ⟨g, 2, none⟩ (.int .i64 (nmn l m)) = y57 at *
                have FW := Lib.hid (show FmC y57 g l h (nmn l m) x false from fw)
                have BG := Lib.hid bg
                clear fw bg hHeld
                refine hK.out _ _ (FA.out _ _ _ FW.out) (fun hHeld => ?_)
                clear hK K
                try simp only [Act.put, List.setIfInBounds_toArray, List.set_cons_zero, List.set_cons_succ]
                refine wpAnyH_take (i := 14) (oi := { dst := some 18, op := Op.fieldAddr 65 (Operand.tmp 3) 3, type := 0, pos := "ref.go:74", after := #[{ on := 0, ground := Ground.phase }, { on := 1, ground := Ground.phase }, { on := 2, ground := Ground.phase }, { on := 3, ground := Ground.phase }, { on := 4, ground := Ground.phase }, { on := 5, ground := Ground.phase }, { on := 6, ground := Ground.phase }, { on := 7, ground := Ground.phase }, { on := 8, ground := Ground.phase }, { on := 9, ground := Ground.phase }, { on := 10, ground := Ground.phase }, { on := 11, ground := Ground.phase }, { on := 12, ground := Ground.phase }, { on := 13, ground := Ground.phase }], guard := none }) (v := ?vn52k14) rfl (by kernel_rfl) (by kernel_rfl) (by kernel_rfl) (fun _ _ _ h => h) (Or.inl ⟨by kernel_rfl, ?yn52k14⟩) (by assumption) ?rn52k14
                case yn52k14 => intro w hSw; (try dsimp only at hSw); go_simp; try with_reducible rfl
                try simp only [Act.put, List.setIfInBounds_toArray, List.set_cons_zero, List.set_cons_succ]
                refine wpAnyH_ready (rs := [15]) (by kernel_rfl) (by simp) (AllReadyH.cons (o := { dst := none, op := Op.store 3 (Operand.tmp 18) (Operand.tmp 16), type := 0, pos := "ref.go:74", after := #[{ on := 14, ground := Ground.data }, { on := 11, ground := Ground.data }, { on := 13, ground := Ground.chain }, { on := 0, ground := Ground.phase }, { on := 1, ground := Ground.phase }, { on := 2, ground := Ground.phase }, { on := 3, ground := Ground.phase }, { on := 4, ground := Ground.phase }, { on := 5, ground := Ground.phase }, { on := 6, ground := Ground.phase }, { on := 7, ground := Ground.phase }, { on := 8, ground := Ground.phase }, { on := 9, ground := Ground.phase }, { on := 10, ground := Ground.phase }, { on := 11, ground := Ground.phase }, { on := 12, ground := Ground.phase }, { on := 13, ground := Ground.phase }], guard := none }) rfl (fun K hK => ?_) (AllReadyH.nil))
                · obtain ⟨c0, c1, c2, c3, c4, fz⟩ := FW.out.facts
                  have f2 := fz 2
                  have f3 := fz 3
                  clear fz
                  go_simp
                  clear c0 c1 c2 c3 c4 f2 f3
                  rw [MNE.out]
                  have fw := heap_setCell_same _ g 3 _ _ (.int .i64 (nmx h x)) FW.out
                  have bg := BG.out.trans ((Below.refl g y57).setCell (p := ⟨g, 3, none⟩) (Nat.le_refl _) (.int .i64 (nmx h x)))
                  generalize y57.setCell ⟨g, 3, none⟩ (.int .i64 (nmx h x)) = y58 at *
                  have FW := Lib.hid (show FmC y58 g l h (nmn l m) (nmx h x) false from fw)
                  have BG := Lib.hid bg
                  clear fw bg hHeld
                  refine hK.out _ _ (FA.out _ _ _ FW.out) (fun hHeld => ?_)
                  clear hK K
                  try simp only [Act.put, List.setIfInBounds_toArray, List.set_cons_zero, List.set_cons_succ]
                  refine wpAnyH_done (by kernel_rfl) ?_ _
                  go_wp2_with fail
                  go_meet
                  exact ⟨FW.out, BG.out⟩
    case rest =>
      obtain ⟨fc, bc⟩ := hcut
      have FC := Lib.hid fc
      have BC := Lib.hid bc
      clear fc bc FA V0
      have AOK := AT.out.ok HL.out HH.out
      have OKI := okN_parts (L := l) (H := h) (mn := m) (mx := x)
      generalize hM : nmn l m = M at *
      generalize hX : nmx h x = X at *
      obtain ⟨z0, z1, z2, z3, z4, zf⟩ := FmC.zero (show zeroC wc (w.heap.size + 1) from ((BC.out.block _ (by omega)).trans (VB.out.block _ (by omega))).trans ZC.out)
      obtain ⟨c0, c1, c2, c3, c4, fz⟩ := FC.out.facts
      by_cases hs : sub64 l h = 0
      · have an := AN.out
        rw [decide_eq_true hs] at an
        have an2 : (bits .andNot .u64 (l : Int) (h : Int) != 0) = false := by simpa using an
        have an3 : bits .andNot .u64 (l : Int) (h : Int) = 0 := by simpa using an
        by_cases hMX : X < M
        · have NOK : okN L H mn mx = false := by rw [← AOK, ← Bool.not_eq_true, OKI]; omega
          clear OKI AOK
          go_wp2_with fail
          clear c0 c1 c2 c3 c4 fz z0 z1 z2 z3 z4 zf
          have pz := FmC.put (show wc.heap[w.heap.size + 1]? = some (.cells #[.int .u64 0, .int .u64 0, .int .i64 0, .int .i64 0, .bool false] 65 (0, 0)) from ((BC.out.block _ (by omega)).trans (VB.out.block _ (by omega))).trans ZC.out) 0 0 0 0 true
          refine bodyPost_ret (v := .agg #[.int .u64 0, .int .u64 0, .int .i64 0, .int .i64 0, .bool true]) (results_cell_row rfl _ _ (w.heap.size + 1) 65 _ (0, 0) _ rfl pz.1 Tryz.underlying65 rfl (by kernel_rfl)) rfl ?_
          exact ⟨by rw [if_neg (by rw [NOK]; decide)], (BW.out.trans ((VB.out.mono (by omega)).trans (BC.out.mono (by omega)))).trans (pz.2.1.mono (by omega))⟩
        · have OK : okN L H mn mx = true := by rw [← AOK, OKI]; exact ⟨hs, by omega⟩
          clear OKI
          go_wp2_with fail
          clear c0 c1 c2 c3 c4 fz
          have S0 : (fun (wx : World) => wx.cell? ⟨g, 0, none⟩ = some (.int .u64 l) ∧ wx.cell? ⟨g, 1, none⟩ = some (.int .u64 h) ∧ wx.cell? ⟨g, 2, none⟩ = some (.int .i64 M) ∧ wx.cell? ⟨g, 3, none⟩ = some (.int .i64 X)) wc.drew := ⟨FC.out.facts.1, FC.out.facts.2.1, FC.out.facts.2.2.1, FC.out.facts.2.2.2.1⟩
          refine wp_region_held_drew (S := fun (wx : World) => wx.cell? ⟨g, 0, none⟩ = some (.int .u64 l) ∧ wx.cell? ⟨g, 1, none⟩ = some (.int .u64 h) ∧ wx.cell? ⟨g, 2, none⟩ = some (.int .i64 M) ∧ wx.cell? ⟨g, 3, none⟩ = some (.int .i64 X)) (by kernel_rfl) S0 (fun hHeld => ?_)
          clear S0
          replace FC := Lib.hid (show FmC wc.drew g l h M X false from FC.out)
          replace BC := Lib.hid (show Below g V1 wc.drew from BC.out.drew)
          have hgs : g < wc.drew.heap.size := (Array.getElem?_eq_some_iff.1 FC.out).1
          generalize wc.drew = Dw5 at *
          refine wpAnyH_take (i := 0) (oi := { dst := some 37, op := Op.fieldAddr 65 (Operand.tmp 3) 2, type := 0, pos := "ref.go:78", after := #[], guard := none }) (v := ?vn53k0) rfl (by kernel_rfl) (by kernel_rfl) (by kernel_rfl) (fun _ _ _ h => h) (Or.inl ⟨by kernel_rfl, ?yn53k0⟩) (by assumption) ?rn53k0
          case yn53k0 => intro w hSw; (try dsimp only at hSw); go_simp; try with_reducible rfl
          try simp only [Act.put, List.setIfInBounds_toArray, List.set_cons_zero, List.set_cons_succ]
          refine wpAnyH_take (i := 1) (oi := { dst := some 38, op := Op.load 3 (Operand.tmp 37), type := 3, pos := "ref.go:78", after := #[{ on := 0, ground := Ground.data }], guard := none }) (v := ?vn54k1) rfl (by kernel_rfl) (by kernel_rfl) (by kernel_rfl) (fun _ _ _ h => h) (Or.inl ⟨by kernel_rfl, ?yn54k1⟩) (by assumption) ?rn54k1
          case yn54k1 => intro w hSw; (try dsimp only at hSw); go_simp; try with_reducible rfl
          try simp only [Act.put, List.setIfInBounds_toArray, List.set_cons_zero, List.set_cons_succ]
          refine wpAnyH_take (i := 2) (oi := { dst := some 39, op := Op.fieldAddr 65 (Operand.tmp 3) 1, type := 0, pos := "ref.go:78", after := #[], guard := none }) (v := ?vn55k2) rfl (by kernel_rfl) (by kernel_rfl) (by kernel_rfl) (fun _ _ _ h => h) (Or.inl ⟨by kernel_rfl, ?yn55k2⟩) (by assumption) ?rn55k2
          case yn55k2 => intro w hSw; (try dsimp only at hSw); go_simp; try with_reducible rfl
          try simp only [Act.put, List.setIfInBounds_toArray, List.set_cons_zero, List.set_cons_succ]
          refine wpAnyH_take (i := 3) (oi := { dst := some 40, op := Op.load 52 (Operand.tmp 39), type := 52, pos := "ref.go:78", after := #[{ on := 2, ground := Ground.data }], guard := none }) (v := ?vn56k3) rfl (by kernel_rfl) (by kernel_rfl) (by kernel_rfl) (fun _ _ _ h => h) (Or.inl ⟨by kernel_rfl, ?yn56k3⟩) (by assumption) ?rn56k3
          case yn56k3 => intro w hSw; (try dsimp only at hSw); go_simp; try with_reducible rfl
          try simp only [Act.put, List.setIfInBounds_toArray, List.set_cons_zero, List.set_cons_succ]
          refine wpAnyH_ready (rs := [4]) (by kernel_rfl) (by simp) (AllReadyH.cons (o := { dst := some 41, op := Op.call { callee := Callee.value (Operand.func 61), args := #[Operand.tmp 40], argTypes := #[52] }, type := 3, pos := "ref.go:78", after := #[{ on := 3, ground := Ground.data }], guard := none }) rfl (fun K hK => ?_) AllReadyH.nil)
          go_simp
          refine (SH.out _).mono ?_
          rintro e w5 ⟨rfl, hb⟩
          clear hHeld
          replace FC := Lib.hid (FC.out.at (hb.block g hgs))
          replace BC := Lib.hid (BC.out.trans (hb.mono (by omega)))
          clear hb hgs
          refine hK.out _ _ ⟨FC.out.facts.1, FC.out.facts.2.1, FC.out.facts.2.2.1, FC.out.facts.2.2.2.1⟩ (fun hHeld => ?_)
          clear hK K
          try simp only [Act.put, List.setIfInBounds_toArray, List.set_cons_zero, List.set_cons_succ]
          refine wpAnyH_take (i := 5) (oi := { dst := some 42, op := Op.binOp BinOp.eql 3 (Operand.tmp 38) (Operand.tmp 41) 3, type := 4, pos := "ref.go:78", after := #[{ on := 1, ground := Ground.data }, { on := 4, ground := Ground.data }], guard := none }) (v := ?vn57k5) rfl (by kernel_rfl) (by kernel_rfl) (by kernel_rfl) (fun _ _ _ h => h) (Or.inl ⟨by kernel_rfl, ?yn57k5⟩) (by assumption) ?rn57k5
          case yn57k5 => intro w hSw; (try dsimp only at hSw); go_simp; try with_reducible rfl
          try simp only [Act.put, List.setIfInBounds_toArray, List.set_cons_zero, List.set_cons_succ]
          refine wpAnyH_done (by kernel_rfl) ?_ _
          have hMX2 := Lib.hid hMX
          clear an an2 an3
          by_cases hc1 : M = ones h
          · have e1 : (M == ((ones h : Nat) : Int)) = true := by simpa using hc1
            have hc2 : X = ((ones h : Nat) : Int) := by clear SL SH; unfold nmx at hX; omega
            have e2 : (X == ((ones h : Nat) : Int)) = true := by simpa using hc2
            have N1 : nlo l h m = h := by unfold nlo; rw [hM]; exact if_pos hc1
            have N2 : nhi l h m x = h := by unfold nhi; rw [hM]; exact if_pos hc1
            obtain ⟨c0, c1, c2, c3, c4, fz⟩ := FC.out.facts
            have f0 := fz 0
            go_wp2_with fail
            clear c0 c1 c2 c3 c4 fz f0
            have fw := heap_setCell_same _ g 0 _ _ (.int .u64 (h : Nat)) FC.out
            have bg := BC.out.trans ((Below.refl g w5).setCell (p := ⟨g, 0, none⟩) (Nat.le_refl _) (.int .u64 (h : Nat)))
            generalize w5.setCell ⟨g, 0, none⟩ (.int .u64 (h : Nat)) = w6 at *
            replace FC := Lib.hid (show FmC w6 g h h M X false from fw)
            replace BC := Lib.hid bg
            clear fw bg
            obtain ⟨c0, c1, c2, c3, c4, fz⟩ := FC.out.facts
            clear c0 c1 c2 c3 c4 fz
            have S0 : (fun (wx : World) => wx.cell? ⟨g, 0, none⟩ = some (.int .u64 h) ∧ wx.cell? ⟨g, 1, none⟩ = some (.int .u64 h) ∧ wx.cell? ⟨g, 2, none⟩ = some (.int .i64 M) ∧ wx.cell? ⟨g, 3, none⟩ = some (.int .i64 X)) w6.drew := ⟨FC.out.facts.1, FC.out.facts.2.1, FC.out.facts.2.2.1, FC.out.facts.2.2.2.1⟩
            refine wp_region_held_drew (S := fun (wx : World) => wx.cell? ⟨g, 0, none⟩ = some (.int .u64 h) ∧ wx.cell? ⟨g, 1, none⟩ = some (.int .u64 h) ∧ wx.cell? ⟨g, 2, none⟩ = some (.int .i64 M) ∧ wx.cell? ⟨g, 3, none⟩ = some (.int .i64 X)) (by kernel_rfl) S0 (fun hHeld => ?_)
            clear S0
            replace FC := Lib.hid (show FmC w6.drew g h h M X false from FC.out)
            replace BC := Lib.hid (show Below g V1 w6.drew from BC.out.drew)
            have hgs : g < w6.drew.heap.size := (Array.getElem?_eq_some_iff.1 FC.out).1
            generalize w6.drew = Dw7 at *
            refine wpAnyH_take (i := 0) (oi := { dst := some 46, op := Op.fieldAddr 65 (Operand.tmp 3) 3, type := 0, pos := "ref.go:81", after := #[], guard := none }) (v := ?vn58k0) rfl (by kernel_rfl) (by kernel_rfl) (by kernel_rfl) (fun _ _ _ h => h) (Or.inl ⟨by kernel_rfl, ?yn58k0⟩) (by assumption) ?rn58k0
            case yn58k0 => intro w hSw; (try dsimp only at hSw); go_simp; try with_reducible rfl
            try simp only [Act.put, List.setIfInBounds_toArray, List.set_cons_zero, List.set_cons_succ]
            refine wpAnyH_take (i := 1) (oi := { dst := some 47, op := Op.load 3 (Operand.tmp 46), type := 3, pos := "ref.go:81", after := #[{ on := 0, ground := Ground.data }], guard := none }) (v := ?vn59k1) rfl (by kernel_rfl) (by kernel_rfl) (by kernel_rfl) (fun _ _ _ h => h) (Or.inl ⟨by kernel_rfl, ?yn59k1⟩) (by assumption) ?rn59k1
            case yn59k1 => intro w hSw; (try dsimp only at hSw); go_simp; try with_reducible rfl
            try simp only [Act.put, List.setIfInBounds_toArray, List.set_cons_zero, List.set_cons_succ]
            refine wpAnyH_take (i := 2) (oi := { dst := some 48, op := Op.fieldAddr 65 (Operand.tmp 3) 0, type := 0, pos := "ref.go:81", after := #[], guard := none }) (v := ?vn60k2) rfl (by kernel_rfl) (by kernel_rfl) (by kernel_rfl) (fun _ _ _ h => h) (Or.inl ⟨by kernel_rfl, ?yn60k2⟩) (by assumption) ?rn60k2
            case yn60k2 => intro w hSw; (try dsimp only at hSw); go_simp; try with_reducible rfl
            try simp only [Act.put, List.setIfInBounds_toArray, List.set_cons_zero, List.set_cons_succ]
            refine wpAnyH_take (i := 3) (oi := { dst := some 49, op := Op.load 52 (Operand.tmp 48), type := 52, pos := "ref.go:81", after := #[{ on := 2, ground := Ground.data }], guard := none }) (v := ?vn61k3) rfl (by kernel_rfl) (by kernel_rfl) (by kernel_rfl) (fun _ _ _ h => h) (Or.inl ⟨by kernel_rfl, ?yn61k3⟩) (by assumption) ?rn61k3
            case yn61k3 => intro w hSw; (try dsimp only at hSw); go_simp; try with_reducible rfl
            try simp only [Act.put, List.setIfInBounds_toArray, List.set_cons_zero, List.set_cons_succ]
            refine wpAnyH_ready (rs := [4]) (by kernel_rfl) (by simp) (AllReadyH.cons (o := { dst := some 50, op := Op.call { callee := Callee.value (Operand.func 61), args := #[Operand.tmp 49], argTypes := #[52] }, type := 3, pos := "ref.go:81", after := #[{ on := 3, ground := Ground.data }], guard := none }) rfl (fun K hK => ?_) AllReadyH.nil)
            go_simp
            refine (SH.out _).mono ?_
            rintro e w7 ⟨rfl, hb⟩
            clear hHeld
            replace FC := Lib.hid (FC.out.at (hb.block g hgs))
            replace BC := Lib.hid (BC.out.trans (hb.mono (by omega)))
            clear hb hgs
            refine hK.out _ _ ⟨FC.out.facts.1, FC.out.facts.2.1, FC.out.facts.2.2.1, FC.out.facts.2.2.2.1⟩ (fun hHeld => ?_)
            clear hK K
            try simp only [Act.put, List.setIfInBounds_toArray, List.set_cons_zero, List.set_cons_succ]
            refine wpAnyH_take (i := 5) (oi := { dst := some 51, op := Op.binOp BinOp.eql 3 (Operand.tmp 47) (Operand.tmp 50) 3, type := 4, pos := "ref.go:81", after := #[{ on := 1, ground := Ground.data }, { on := 4, ground := Ground.data }], guard := none }) (v := ?vn62k5) rfl (by kernel_rfl) (by kernel_rfl) (by kernel_rfl) (fun _ _ _ h => h) (Or.inl ⟨by kernel_rfl, ?yn62k5⟩) (by assumption) ?rn62k5
            case yn62k5 => intro w hSw; (try dsimp only at hSw); go_simp; try with_reducible rfl
            try simp only [Act.put, List.setIfInBounds_toArray, List.set_cons_zero, List.set_cons_succ]
            refine wpAnyH_done (by kernel_rfl) ?_ _
            obtain ⟨c0, c1, c2, c3, c4, fz⟩ := FC.out.facts
            have f1 := fz 1
            go_upto_region 9 with fail
            clear c0 c1 c2 c3 c4 fz f1
            have fw := heap_setCell_same _ g 1 _ _ (.int .u64 (h : Nat)) FC.out
            have bg := BC.out.trans ((Below.refl g w7).setCell (p := ⟨g, 1, none⟩) (Nat.le_refl _) (.int .u64 (h : Nat)))
            generalize w7.setCell ⟨g, 1, none⟩ (.int .u64 (h : Nat)) = w8 at *
            replace FC := Lib.hid (show FmC w8 g h h M X false from fw)
            replace BC := Lib.hid bg
            clear fw bg
            clear hc1 hc2 e1 e2
            have FF := Lib.hid (show FmC w8 w.heap.size l h m x false from FM.out.at ((BC.out.block _ (by omega)).trans (VB.out.block _ (by omega))))
            clear z0 z1 z2 z3 z4 zf
            by_cases d0 : h = l
            · subst d0
              by_cases d1 : M = m
              · subst d1
                by_cases d2 : X = x
                · subst d2
                  obtain ⟨c0, c1, c2, c3, c4, fz⟩ := FC.out.facts
                  obtain ⟨b0, b1, b2, b3, b4, bf⟩ := FF.out.facts
                  obtain ⟨z0, z1, z2, z3, z4, zf⟩ := FmC.zero (show zeroC w8 (w.heap.size + 1) from ((BC.out.block _ (by omega)).trans (VB.out.block _ (by omega))).trans ZC.out)
                  have pz := FmC.put (show w8.heap[w.heap.size + 1]? = some (.cells #[.int .u64 0, .int .u64 0, .int .i64 0, .int .i64 0, .bool false] 65 (0, 0)) from ((BC.out.block _ (by omega)).trans (VB.out.block _ (by omega))).trans ZC.out) h h M X false
                  go_wp2_with fail
                  refine bodyPost_ret (v := .agg #[.int .u64 (h : Nat), .int .u64 (h : Nat), .int .i64 M, .int .i64 X, .bool false]) (results_cell_row rfl _ _ (w.heap.size + 1) 65 _ (0, 0) _ rfl pz.1 Tryz.underlying65 rfl (by kernel_rfl)) rfl ?_
                  obtain ⟨s1, s2, s3, s4⟩ := AT.out.step HL.out HH.out
                  rw [N1] at s1; rw [N2] at s2; rw [hM] at s3; rw [hX] at s4
                  exact ⟨by rw [if_pos OK, ← s1, ← s2, ← s3, ← s4], BW.out.trans ((VB.out.mono (by omega)).trans ((BC.out.mono (by omega)).trans (pz.2.1.mono (by omega))))⟩
                · obtain ⟨c0, c1, c2, c3, c4, fz⟩ := FC.out.facts
                  obtain ⟨b0, b1, b2, b3, b4, bf⟩ := FF.out.facts
                  obtain ⟨z0, z1, z2, z3, z4, zf⟩ := FmC.zero (show zeroC w8 (w.heap.size + 1) from ((BC.out.block _ (by omega)).trans (VB.out.block _ (by omega))).trans ZC.out)
                  have pz := FmC.put FF.out h h M X false
                  go_wp2_with fail
                  obtain ⟨ra, rm⟩ := round_end AT.out HL.out HH.out OK N1 N2 hM hX (fun e => d2 e.2.2.2) FM.out pz.1
                  exact ⟨⟨_, _, _, _, ra, pz.1, (pz.2.2 _ (by omega)).trans (show zeroC w8 (w.heap.size + 1) from ((BC.out.block _ (by omega)).trans (VB.out.block _ (by omega))).trans ZC.out), BW.out.trans ((VB.out.mono (by omega)).trans ((BC.out.mono (by omega)).trans (pz.2.1.mono (by omega))))⟩, rm⟩
              · obtain ⟨c0, c1, c2, c3, c4, fz⟩ := FC.out.facts
                obtain ⟨b0, b1, b2, b3, b4, bf⟩ := FF.out.facts
                obtain ⟨z0, z1, z2, z3, z4, zf⟩ := FmC.zero (show zeroC w8 (w.heap.size + 1) from ((BC.out.block _ (by omega)).trans (VB.out.block _ (by omega))).trans ZC.out)
                have pz := FmC.put FF.out h h M X false
                go_wp2_with fail
                obtain ⟨ra, rm⟩ := round_end AT.out HL.out HH.out OK N1 N2 hM hX (fun e => d1 e.2.2.1) FM.out pz.1
                exact ⟨⟨_, _, _, _, ra, pz.1, (pz.2.2 _ (by omega)).trans (show zeroC w8 (w.heap.size + 1) from ((BC.out.block _ (by omega)).trans (VB.out.block _ (by omega))).trans ZC.out), BW.out.trans ((VB.out.mono (by omega)).trans ((BC.out.mono (by omega)).trans (pz.2.1.mono (by omega))))⟩, rm⟩
            · have d3 : ¬ ((h : Int) = (l : Int)) := by omega
              obtain ⟨c0, c1, c2, c3, c4, fz⟩ := FC.out.facts
              obtain ⟨b0, b1, b2, b3, b4, bf⟩ := FF.out.facts
              obtain ⟨z0, z1, z2, z3, z4, zf⟩ := FmC.zero (show zeroC w8 (w.heap.size + 1) from ((BC.out.block _ (by omega)).trans (VB.out.block _ (by omega))).trans ZC.out)
              have pz := FmC.put FF.out h h M X false
              go_wp2_with fail
              obtain ⟨ra, rm⟩ := round_end AT.out HL.out HH.out OK N1 N2 hM hX (fun e => d0 e.1) FM.out pz.1
              exact ⟨⟨_, _, _, _, ra, pz.1, (pz.2.2 _ (by omega)).trans (show zeroC w8 (w.heap.size + 1) from ((BC.out.block _ (by omega)).trans (VB.out.block _ (by omega))).trans ZC.out), BW.out.trans ((VB.out.mono (by omega)).trans ((BC.out.mono (by omega)).trans (pz.2.1.mono (by omega))))⟩, rm⟩
          · have e1 : (M == ((ones h : Nat) : Int)) = false := by simpa using hc1
            go_wp2_with fail
            obtain ⟨c0, c1, c2, c3, c4, fz⟩ := FC.out.facts
            clear c0 c1 c2 c3 c4 fz
            have S0 : (fun (wx : World) => wx.cell? ⟨g, 0, none⟩ = some (.int .u64 l) ∧ wx.cell? ⟨g, 1, none⟩ = some (.int .u64 h) ∧ wx.cell? ⟨g, 2, none⟩ = some (.int .i64 M) ∧ wx.cell? ⟨g, 3, none⟩ = some (.int .i64 X)) w5.drew := ⟨FC.out.facts.1, FC.out.facts.2.1, FC.out.facts.2.2.1, FC.out.facts.2.2.2.1⟩
            refine wp_region_held_drew (S := fun (wx : World) => wx.cell? ⟨g, 0, none⟩ = some (.int .u64 l) ∧ wx.cell? ⟨g, 1, none⟩ = some (.int .u64 h) ∧ wx.cell? ⟨g, 2, none⟩ = some (.int .i64 M) ∧ wx.cell? ⟨g, 3, none⟩ = some (.int .i64 X)) (by kernel_rfl) S0 (fun hHeld => ?_)
            clear S0
            replace FC := Lib.hid (show FmC w5.drew g l h M X false from FC.out)
            replace BC := Lib.hid (show Below g V1 w5.drew from BC.out.drew)
            have hgs : g < w5.drew.heap.size := (Array.getElem?_eq_some_iff.1 FC.out).1
            generalize w5.drew = Dw7 at *
            refine wpAnyH_take (i := 0) (oi := { dst := some 46, op := Op.fieldAddr 65 (Operand.tmp 3) 3, type := 0, pos := "ref.go:81", after := #[], guard := none }) (v := ?vn63k0) rfl (by kernel_rfl) (by kernel_rfl) (by kernel_rfl) (fun _ _ _ h => h) (Or.inl ⟨by kernel_rfl, ?yn63k0⟩) (by assumption) ?rn63k0
            case yn63k0 => intro w hSw; (try dsimp only at hSw); go_simp; try with_reducible rfl
            try simp only [Act.put, List.setIfInBounds_toArray, List.set_cons_zero, List.set_cons_succ]
            refine wpAnyH_take (i := 1) (oi := { dst := some 47, op := Op.load 3 (Operand.tmp 46), type := 3, pos := "ref.go:81", after := #[{ on := 0, ground := Ground.data }], guard := none }) (v := ?vn64k1) rfl (by kernel_rfl) (by kernel_rfl) (by kernel_rfl) (fun _ _ _ h => h) (Or.inl ⟨by kernel_rfl, ?yn64k1⟩) (by assumption) ?rn64k1
            case yn64k1 => intro w hSw; (try dsimp only at hSw); go_simp; try with_reducible rfl
            try simp only [Act.put, List.setIfInBounds_toArray, List.set_cons_zero, List.set_cons_succ]
            refine wpAnyH_take (i := 2) (oi := { dst := some 48, op := Op.fieldAddr 65 (Operand.tmp 3) 0, type := 0, pos := "ref.go:81", after := #[], guard := none }) (v := ?vn65k2) rfl (by kernel_rfl) (by kernel_rfl) (by kernel_rfl) (fun _ _ _ h => h) (Or.inl ⟨by kernel_rfl, ?yn65k2⟩) (by assumption) ?rn65k2
            case yn65k2 => intro w hSw; (try dsimp only at hSw); go_simp; try with_reducible rfl
            try simp only [Act.put, List.setIfInBounds_toArray, List.set_cons_zero, List.set_cons_succ]
            refine wpAnyH_take (i := 3) (oi := { dst := some 49, op := Op.load 52 (Operand.tmp 48), type := 52, pos := "ref.go:81", after := #[{ on := 2, ground := Ground.data }], guard := none }) (v := ?vn66k3) rfl (by kernel_rfl) (by kernel_rfl) (by kernel_rfl) (fun _ _ _ h => h) (Or.inl ⟨by kernel_rfl, ?yn66k3⟩) (by assumption) ?rn66k3
            case yn66k3 => intro w hSw; (try dsimp only at hSw); go_simp; try with_reducible rfl
            try simp only [Act.put, List.setIfInBounds_toArray, List.set_cons_zero, List.set_cons_succ]
            refine wpAnyH_ready (rs := [4]) (by kernel_rfl) (by simp) (AllReadyH.cons (o := { dst := some 50, op := Op.call { callee := Callee.value (Operand.func 61), args := #[Operand.tmp 49], argTypes := #[52] }, type := 3, pos := "ref.go:81", after := #[{ on := 3, ground := Ground.data }], guard := none }) rfl (fun K hK => ?_) AllReadyH.nil)
            go_simp
            refine (SL.out _).mono ?_
            rintro e w7 ⟨rfl, hb⟩
            clear hHeld
            replace FC := Lib.hid (FC.out.at (hb.block g hgs))
            replace BC := Lib.hid (BC.out.trans (hb.mono (by omega)))
            clear hb hgs
            refine hK.out _ _ ⟨FC.out.facts.1, FC.out.facts.2.1, FC.out.facts.2.2.1, FC.out.facts.2.2.2.1⟩ (fun hHeld => ?_)
            clear hK K
            try simp only [Act.put, List.setIfInBounds_toArray, List.set_cons_zero, List.set_cons_succ]
            refine wpAnyH_take (i := 5) (oi := { dst := some 51, op := Op.binOp BinOp.eql 3 (Operand.tmp 47) (Operand.tmp 50) 3, type := 4, pos := "ref.go:81", after := #[{ on := 1, ground := Ground.data }, { on := 4, ground := Ground.data }], guard := none }) (v := ?vn67k5) rfl (by kernel_rfl) (by kernel_rfl) (by kernel_rfl) (fun _ _ _ h => h) (Or.inl ⟨by kernel_rfl, ?yn67k5⟩) (by assumption) ?rn67k5
            case yn67k5 => intro w hSw; (try dsimp only at hSw); go_simp; try with_reducible rfl
            try simp only [Act.put, List.setIfInBounds_toArray, List.set_cons_zero, List.set_cons_succ]
            refine wpAnyH_done (by kernel_rfl) ?_ _
            have N1 : nlo l h m = l := by unfold nlo; rw [hM]; exact if_neg hc1
            by_cases hc2 : X = ones l
            · have e2 : (X == ((ones l : Nat) : Int)) = true := by simpa using hc2
              have N2 : nhi l h m x = l := by unfold nhi; rw [hM, hX, if_neg hc1, if_pos hc2]
              obtain ⟨c0, c1, c2, c3, c4, fz⟩ := FC.out.facts
              have f1 := fz 1
              go_upto_region 9 with fail
              clear c0 c1 c2 c3 c4 fz f1
              have fw := heap_setCell_same _ g 1 _ _ (.int .u64 (l : Nat)) FC.out
              have bg := BC.out.trans ((Below.refl g w7).setCell (p := ⟨g, 1, none⟩) (Nat.le_refl _) (.int .u64 (l : Nat)))
              generalize w7.setCell ⟨g, 1, none⟩ (.int .u64 (l : Nat)) = w8 at *
              replace FC := Lib.hid (show FmC w8 g l l M X false from fw)
              replace BC := Lib.hid bg
              clear fw bg
              clear hc1 hc2 e1 e2
              have FF := Lib.hid (show FmC w8 w.heap.size l h m x false from FM.out.at ((BC.out.block _ (by omega)).trans (VB.out.block _ (by omega))))
              clear z0 z1 z2 z3 z4 zf
              by_cases d0 : l = h
              · subst d0
                by_cases d1 : M = m
                · subst d1
                  by_cases d2 : X = x
                  · subst d2
                    obtain ⟨c0, c1, c2, c3, c4, fz⟩ := FC.out.facts
                    obtain ⟨b0, b1, b2, b3, b4, bf⟩ := FF.out.facts
                    obtain ⟨z0, z1, z2, z3, z4, zf⟩ := FmC.zero (show zeroC w8 (w.heap.size + 1) from ((BC.out.block _ (by omega)).trans (VB.out.block _ (by omega))).trans ZC.out)
                    have pz := FmC.put (show w8.heap[w.heap.size + 1]? = some (.cells #[.int .u64 0, .int .u64 0, .int .i64 0, .int .i64 0, .bool false] 65 (0, 0)) from ((BC.out.block _ (by omega)).trans (VB.out.block _ (by omega))).trans ZC.out) l l M X false
                    go_wp2_with fail
                    refine bodyPost_ret (v := .agg #[.int .u64 (l : Nat), .int .u64 (l : Nat), .int .i64 M, .int .i64 X, .bool false]) (results_cell_row rfl _ _ (w.heap.size + 1) 65 _ (0, 0) _ rfl pz.1 Tryz.underlying65 rfl (by kernel_rfl)) rfl ?_
                    obtain ⟨s1, s2, s3, s4⟩ := AT.out.step HL.out HH.out
                    rw [N1] at s1; rw [N2] at s2; rw [hM] at s3; rw [hX] at s4
                    exact ⟨by rw [if_pos OK, ← s1, ← s2, ← s3, ← s4], BW.out.trans ((VB.out.mono (by omega)).trans ((BC.out.mono (by omega)).trans (pz.2.1.mono (by omega))))⟩
                  · obtain ⟨c0, c1, c2, c3, c4, fz⟩ := FC.out.facts
                    obtain ⟨b0, b1, b2, b3, b4, bf⟩ := FF.out.facts
                    obtain ⟨z0, z1, z2, z3, z4, zf⟩ := FmC.zero (show zeroC w8 (w.heap.size + 1) from ((BC.out.block _ (by omega)).trans (VB.out.block _ (by omega))).trans ZC.out)
                    have pz := FmC.put FF.out l l M X false
                    go_wp2_with fail
                    obtain ⟨ra, rm⟩ := round_end AT.out HL.out HH.out OK N1 N2 hM hX (fun e => d2 e.2.2.2) FM.out pz.1
                    exact ⟨⟨_, _, _, _, ra, pz.1, (pz.2.2 _ (by omega)).trans (show zeroC w8 (w.heap.size + 1) from ((BC.out.block _ (by omega)).trans (VB.out.block _ (by omega))).trans ZC.out), BW.out.trans ((VB.out.mono (by omega)).trans ((BC.out.mono (by omega)).trans (pz.2.1.mono (by omega))))⟩, rm⟩
                · obtain ⟨c0, c1, c2, c3, c4, fz⟩ := FC.out.facts
                  obtain ⟨b0, b1, b2, b3, b4, bf⟩ := FF.out.facts
                  obtain ⟨z0, z1, z2, z3, z4, zf⟩ := FmC.zero (show zeroC w8 (w.heap.size + 1) from ((BC.out.block _ (by omega)).trans (VB.out.block _ (by omega))).trans ZC.out)
                  have pz := FmC.put FF.out l l M X false
                  go_wp2_with fail
                  obtain ⟨ra, rm⟩ := round_end AT.out HL.out HH.out OK N1 N2 hM hX (fun e => d1 e.2.2.1) FM.out pz.1
                  exact ⟨⟨_, _, _, _, ra, pz.1, (pz.2.2 _ (by omega)).trans (show zeroC w8 (w.heap.size + 1) from ((BC.out.block _ (by omega)).trans (VB.out.block _ (by omega))).trans ZC.out), BW.out.trans ((VB.out.mono (by omega)).trans ((BC.out.mono (by omega)).trans (pz.2.1.mono (by omega))))⟩, rm⟩
              · have d3 : ¬ ((l : Int) = (h : Int)) := by omega
                obtain ⟨c0, c1, c2, c3, c4, fz⟩ := FC.out.facts
                obtain ⟨b0, b1, b2, b3, b4, bf⟩ := FF.out.facts
                obtain ⟨z0, z1, z2, z3, z4, zf⟩ := FmC.zero (show zeroC w8 (w.heap.size + 1) from ((BC.out.block _ (by omega)).trans (VB.out.block _ (by omega))).trans ZC.out)
                have pz := FmC.put FF.out l l M X false
                go_wp2_with fail
                obtain ⟨ra, rm⟩ := round_end AT.out HL.out HH.out OK N1 N2 hM hX (fun e => d0 e.2.1) FM.out pz.1
                exact ⟨⟨_, _, _, _, ra, pz.1, (pz.2.2 _ (by omega)).trans (show zeroC w8 (w.heap.size + 1) from ((BC.out.block _ (by omega)).trans (VB.out.block _ (by omega))).trans ZC.out), BW.out.trans ((VB.out.mono (by omega)).trans ((BC.out.mono (by omega)).trans (pz.2.1.mono (by omega))))⟩, rm⟩
            · have e2 : (X == ((ones l : Nat) : Int)) = false := by simpa using hc2
              have N2 : nhi l h m x = h := by unfold nhi; rw [hM, hX, if_neg hc1, if_neg hc2]
              go_upto_region 9 with fail
              clear hc1 hc2 e1 e2
              have FF := Lib.hid (show FmC w7 w.heap.size l h m x false from FM.out.at ((BC.out.block _ (by omega)).trans (VB.out.block _ (by omega))))
              clear z0 z1 z2 z3 z4 zf
              by_cases d1 : M = m
              · subst d1
                by_cases d2 : X = x
                · subst d2
                  obtain ⟨c0, c1, c2, c3, c4, fz⟩ := FC.out.facts
                  obtain ⟨b0, b1, b2, b3, b4, bf⟩ := FF.out.facts
                  obtain ⟨z0, z1, z2, z3, z4, zf⟩ := FmC.zero (show zeroC w7 (w.heap.size + 1) from ((BC.out.block _ (by omega)).trans (VB.out.block _ (by omega))).trans ZC.out)
                  have pz := FmC.put (show w7.heap[w.heap.size + 1]? = some (.cells #[.int .u64 0, .int .u64 0, .int .i64 0, .int .i64 0, .bool false] 65 (0, 0)) from ((BC.out.block _ (by omega)).trans (VB.out.block _ (by omega))).trans ZC.out) l h M X false
                  go_wp2_with fail
                  refine bodyPost_ret (v := .agg #[.int .u64 (l : Nat), .int .u64 (h : Nat), .int .i64 M, .int .i64 X, .bool false]) (results_cell_row rfl _ _ (w.heap.size + 1) 65 _ (0, 0) _ rfl pz.1 Tryz.underlying65 rfl (by kernel_rfl)) rfl ?_
                  obtain ⟨s1, s2, s3, s4⟩ := AT.out.step HL.out HH.out
                  rw [N1] at s1; rw [N2] at s2; rw [hM] at s3; rw [hX] at s4
                  exact ⟨by rw [if_pos OK, ← s1, ← s2, ← s3, ← s4], BW.out.trans ((VB.out.mono (by omega)).trans ((BC.out.mono (by omega)).trans (pz.2.1.mono (by omega))))⟩
                · obtain ⟨c0, c1, c2, c3, c4, fz⟩ := FC.out.facts
                  obtain ⟨b0, b1, b2, b3, b4, bf⟩ := FF.out.facts
                  obtain ⟨z0, z1, z2, z3, z4, zf⟩ := FmC.zero (show zeroC w7 (w.heap.size + 1) from ((BC.out.block _ (by omega)).trans (VB.out.block _ (by omega))).trans ZC.out)
                  have pz := FmC.put FF.out l h M X false
                  go_wp2_with fail
                  obtain ⟨ra, rm⟩ := round_end AT.out HL.out HH.out OK N1 N2 hM hX (fun e => d2 e.2.2.2) FM.out pz.1
                  exact ⟨⟨_, _, _, _, ra, pz.1, (pz.2.2 _ (by omega)).trans (show zeroC w7 (w.heap.size + 1) from ((BC.out.block _ (by omega)).trans (VB.out.block _ (by omega))).trans ZC.out), BW.out.trans ((VB.out.mono (by omega)).trans ((BC.out.mono (by omega)).trans (pz.2.1.mono (by omega))))⟩, rm⟩
              · obtain ⟨c0, c1, c2, c3, c4, fz⟩ := FC.out.facts
                obtain ⟨b0, b1, b2, b3, b4, bf⟩ := FF.out.facts
                obtain ⟨z0, z1, z2, z3, z4, zf⟩ := FmC.zero (show zeroC w7 (w.heap.size + 1) from ((BC.out.block _ (by omega)).trans (VB.out.block _ (by omega))).trans ZC.out)
                have pz := FmC.put FF.out l h M X false
                go_wp2_with fail
                obtain ⟨ra, rm⟩ := round_end AT.out HL.out HH.out OK N1 N2 hM hX (fun e => d1 e.2.2.1) FM.out pz.1
                exact ⟨⟨_, _, _, _, ra, pz.1, (pz.2.2 _ (by omega)).trans (show zeroC w7 (w.heap.size + 1) from ((BC.out.block _ (by omega)).trans (VB.out.block _ (by omega))).trans ZC.out), BW.out.trans ((VB.out.mono (by omega)).trans ((BC.out.mono (by omega)).trans (pz.2.1.mono (by omega))))⟩, rm⟩
      · have an := AN.out
        rw [decide_eq_false hs] at an
        have an2 : (bits .andNot .u64 (l : Int) (h : Int) != 0) = true := by simpa using an
        have an3 : ¬ (bits .andNot .u64 (l : Int) (h : Int) = 0) := by simpa using an
        have NOK : okN L H mn mx = false := by rw [← AOK, ← Bool.not_eq_true, OKI]; omega
        clear OKI AOK
        go_wp2_with fail
        clear c0 c1 c2 c3 c4 fz z0 z1 z2 z3 z4 zf
        have pz := FmC.put (show wc.heap[w.heap.size + 1]? = some (.cells #[.int .u64 0, .int .u64 0, .int .i64 0, .int .i64 0, .bool false] 65 (0, 0)) from ((BC.out.block _ (by omega)).trans (VB.out.block _ (by omega))).trans ZC.out) 0 0 0 0 true
        refine bodyPost_ret (v := .agg #[.int .u64 0, .int .u64 0, .int .i64 0, .int .i64 0, .bool true]) (results_cell_row rfl _ _ (w.heap.size + 1) 65 _ (0, 0) _ rfl pz.1 Tryz.underlying65 rfl (by kernel_rfl)) rfl ?_
        exact ⟨by rw [if_neg (by rw [NOK]; decide)], (BW.out.trans ((VB.out.mono (by omega)).trans (BC.out.mono (by omega)))).trans (pz.2.1.mono (by omega))⟩
end Go.Proofs.YtcbjkclajkjicaaGreatDoor
