/-
  The document's normal form of what stands for no set already.
-/
import Derived.Test.YthakhdbakmlooaaDoorFzZ
namespace Go.Proofs.YthakhdbakmlooaaDoor
set_option linter.unusedSimpArgs false
set_option linter.unusedVariables false
open Go Go.RowKit Go.Shelf Go.Ev

set_option maxRecDepth 100000 in
set_option maxHeartbeats 8000000 in
theorem rnormal_bad (l h : Nat) (m x : Int) (w : World) (hl : l < 18446744073709551616) (hh : h < 18446744073709551616) :
    Calls Tryd.prog 33 #[.agg #[.int .u64 l, .int .u64 h, .int .i64 m, .int .i64 x, .bool true]] w fun e w' => e = .returned (.agg #[.int .u64 0, .int .u64 0, .int .i64 0, .int .i64 0, .bool true]) ∧ Below w.heap.size w w' := by
  go_enter Tryd.func33, Tryd.ntmps33
  go_wp2_with fail
  go_loopw [3] (fun _ wr => FmC wr w.heap.size l h m x true ∧ zeroC wr (w.heap.size + 1) ∧ Below w.heap.size w wr) (fun _ _ => 0)
  case atStart =>
    exact ⟨heap_alloc2_old w (.cells #[.int .u64 l, .int .u64 h, .int .i64 m, .int .i64 x, .bool true] 58) _, heap_alloc2_new w _ (.cells #[.int .u64 0, .int .u64 0, .int .i64 0, .int .i64 0, .bool false] 58), ((Below.refl _ w).alloc (Nat.le_refl _) _).alloc (by simp) _⟩
  case round =>
    obtain ⟨fm, zc, bw⟩ := hrel
    obtain ⟨q0, q1, q2, q3, q4, fz⟩ := fm.facts
    have FM := Lib.hid fm
    have ZC := Lib.hid zc
    have BW := Lib.hid bw
    have hsz : w.heap.size + 1 < wr.heap.size := by have := ZC.out; unfold zeroC at this; exact (Array.getElem?_eq_some_iff.1 this).1
    clear fm zc bw
    have SL := Lib.hid (fun w1 => rsize_any l w1 hl)
    have SH := Lib.hid (fun w1 => rsize_any h w1 hh)
    have AN := Lib.hid (show (bits .andNot .u64 (l : Int) (h : Int) == 0) = decide (sub64 l h = 0) from by rw [show bits .andNot .u64 (l : Int) (h : Int) = ((sub64 l h : Nat) : Int) from andNot_u64 l h hl hh, Bool.eq_iff_iff, beq_iff_eq, decide_eq_true_eq]; omega)
    have HLL := Lib.hid hl
    have HHH := Lib.hid hh
    clear hl hh
    go_wp2_with fail
    clear q0 q1 q2 q3 q4 fz
    have v0 := heap_alloc_new wr (.cells #[.int .u64 l, .int .u64 h, .int .i64 m, .int .i64 x, .bool true] 58)
    have VB := Lib.hid (show Below wr.heap.size wr (wr.alloc (.cells #[.int .u64 l, .int .u64 h, .int .i64 m, .int .i64 x, .bool true] 58)) from (Below.refl _ wr).alloc (Nat.le_refl _) _)
    have hvs : (wr.alloc (.cells #[.int .u64 l, .int .u64 h, .int .i64 m, .int .i64 x, .bool true] 58)).heap.size = wr.heap.size + 1 := by simp
    generalize hV1 : wr.alloc (.cells #[.int .u64 l, .int .u64 h, .int .i64 m, .int .i64 x, .bool true] 58) = V1 at *
    obtain ⟨g, hg⟩ : ∃ g, wr.heap.size = g := ⟨_, rfl⟩
    have V0 := Lib.hid (show FmC V1 g l h m x true from by rw [← hg]; exact v0)
    clear v0 hV1
    rw [hg] at hvs VB hsz ⊢
    have FA := Lib.hid (fun (wx : World) (m' x' : Int) (k : FmC wx g l h m' x' true) => (show (fun (wx : World) => wx.cell? ⟨g, 0, none⟩ = some (.int .u64 l) ∧ wx.cell? ⟨g, 1, none⟩ = some (.int .u64 h)) wx from ⟨k.facts.1, k.facts.2.1⟩))
    go_cut [] from 5 to 18 (fun wx => FmC wx g l h (nmn l m) (nmx h x) true ∧ Below g V1 wx)
    case first =>
      have BV := Lib.hid ((Below.refl (g + 1) V1).drew)
      have hv2 : g + 1 ≤ V1.drew.heap.size := by simp only [World.drew]; omega
      have FW := Lib.hid (show FmC V1.drew g l h m x true from V0.out)
      have S0 := FA.out _ _ _ FW.out
      refine wp_region_held_drew (S := fun (wx : World) => wx.cell? ⟨g, 0, none⟩ = some (.int .u64 l) ∧ wx.cell? ⟨g, 1, none⟩ = some (.int .u64 h)) (by kernel_rfl) S0 (fun hHeld => ?_)
      clear S0
      generalize V1.drew = V at *
      have MXE := Lib.hid (show (if m < ((ones l : Nat) : Int) then ((ones l : Nat) : Int) else m) = nmn l m from by unfold nmn; split <;> omega)
      have MNE := Lib.hid (show (if ((ones h : Nat) : Int) < x then ((ones h : Nat) : Int) else x) = nmx h x from by unfold nmx; split <;> omega)
      refine wpAnyH_take (i := 0) (oi := ⟨some 5, .fieldAddr 58 (.tmp 3) 2, 0, "ref.go:74", #[], none⟩) (v := ?vn1k0) rfl (by kernel_rfl) (by kernel_rfl) (by kernel_rfl) (fun _ _ _ h => h) (Or.inl ⟨by kernel_rfl, ?yn1k0⟩) (by assumption) ?rn1k0
      case yn1k0 => intro w hSw; (try dsimp only at hSw); go_simp; try with_reducible rfl
      try simp only [Act.put, List.setIfInBounds_toArray, List.set_cons_zero, List.set_cons_succ]
      refine wpAnyH_take (i := 2) (oi := ⟨some 7, .fieldAddr 58 (.tmp 3) 0, 0, "ref.go:74", #[], none⟩) (v := ?vn2k2) rfl (by kernel_rfl) (by kernel_rfl) (by kernel_rfl) (fun _ _ _ h => h) (Or.inl ⟨by kernel_rfl, ?yn2k2⟩) (by assumption) ?rn2k2
      case yn2k2 => intro w hSw; (try dsimp only at hSw); go_simp; try with_reducible rfl
      try simp only [Act.put, List.setIfInBounds_toArray, List.set_cons_zero, List.set_cons_succ]
      refine wpAnyH_take (i := 3) (oi := ⟨some 8, .load 56 (.tmp 7), 56, "ref.go:74", #[⟨2, .data⟩], none⟩) (v := ?vn3k3) rfl (by kernel_rfl) (by kernel_rfl) (by kernel_rfl) (fun _ _ _ h => h) (Or.inl ⟨by kernel_rfl, ?yn3k3⟩) (by assumption) ?rn3k3
      case yn3k3 => intro w hSw; (try dsimp only at hSw); go_simp; try with_reducible rfl
      try simp only [Act.put, List.setIfInBounds_toArray, List.set_cons_zero, List.set_cons_succ]
      refine wpAnyH_take (i := 6) (oi := ⟨some 11, .fieldAddr 58 (.tmp 3) 3, 0, "ref.go:74", #[], none⟩) (v := ?vn4k6) rfl (by kernel_rfl) (by kernel_rfl) (by kernel_rfl) (fun _ _ _ h => h) (Or.inl ⟨by kernel_rfl, ?yn4k6⟩) (by assumption) ?rn4k6
      case yn4k6 => intro w hSw; (try dsimp only at hSw); go_simp; try with_reducible rfl
      try simp only [Act.put, List.setIfInBounds_toArray, List.set_cons_zero, List.set_cons_succ]
      refine wpAnyH_take (i := 8) (oi := ⟨some 13, .fieldAddr 58 (.tmp 3) 1, 0, "ref.go:74", #[], none⟩) (v := ?vn5k8) rfl (by kernel_rfl) (by kernel_rfl) (by kernel_rfl) (fun _ _ _ h => h) (Or.inl ⟨by kernel_rfl, ?yn5k8⟩) (by assumption) ?rn5k8
      case yn5k8 => intro w hSw; (try dsimp only at hSw); go_simp; try with_reducible rfl
      try simp only [Act.put, List.setIfInBounds_toArray, List.set_cons_zero, List.set_cons_succ]
      refine wpAnyH_take (i := 9) (oi := ⟨some 14, .load 56 (.tmp 13), 56, "ref.go:74", #[⟨8, .data⟩], none⟩) (v := ?vn6k9) rfl (by kernel_rfl) (by kernel_rfl) (by kernel_rfl) (fun _ _ _ h => h) (Or.inl ⟨by kernel_rfl, ?yn6k9⟩) (by assumption) ?rn6k9
      case yn6k9 => intro w hSw; (try dsimp only at hSw); go_simp; try with_reducible rfl
      try simp only [Act.put, List.setIfInBounds_toArray, List.set_cons_zero, List.set_cons_succ]
      refine wpAnyH_ready (rs := [1, 4, 7]) (by kernel_rfl) (by simp) (AllReadyH.cons (o := ⟨some 6, .load 3 (.tmp 5), 3, "ref.go:74", #[⟨0, .data⟩], none⟩) rfl (fun K hK => ?_) (AllReadyH.cons (o := ⟨some 9, .call { callee := Callee.value (.func 40), args := #[.tmp 8], argTypes := #[56] }, 3, "ref.go:74", #[⟨3, .data⟩], none⟩) rfl (fun K hK => ?_) (AllReadyH.cons (o := ⟨some 12, .load 3 (.tmp 11), 3, "ref.go:74", #[⟨6, .data⟩], none⟩) rfl (fun K hK => ?_) (AllReadyH.nil))))
      · obtain ⟨c0, c1, c2, c3, c4, fz⟩ := FW.out.facts
        have f2 := fz 2
        have f3 := fz 3
        clear fz
        go_simp
        clear c0 c1 c2 c3 c4 f2 f3
        clear hHeld
        refine hK.out _ _ (FA.out _ _ _ FW.out) (fun hHeld => ?_)
        clear hK K
        try simp only [Act.put, List.setIfInBounds_toArray, List.set_cons_zero, List.set_cons_succ]
        refine wpAnyH_ready (rs := [4, 7]) (by kernel_rfl) (by simp) (AllReadyH.cons (o := ⟨some 9, .call { callee := Callee.value (.func 40), args := #[.tmp 8], argTypes := #[56] }, 3, "ref.go:74", #[⟨3, .data⟩], none⟩) rfl (fun K hK => ?_) (AllReadyH.cons (o := ⟨some 12, .load 3 (.tmp 11), 3, "ref.go:74", #[⟨6, .data⟩], none⟩) rfl (fun K hK => ?_) (AllReadyH.nil)))
        · go_simp
          refine (SL.out _).mono ?_
          rintro e y2 ⟨rfl, hb⟩
          clear hHeld
          have FW := Lib.hid (FW.out.at (hb.block g (by omega)))
          have BV := Lib.hid (BV.out.trans (hb.mono hv2))
          have hv2 : g + 1 ≤ y2.heap.size := Nat.le_trans hv2 hb.size
          clear hb
          refine hK.out _ _ (FA.out _ _ _ FW.out) (fun hHeld => ?_)
          clear hK K
          try simp only [Act.put, List.setIfInBounds_toArray, List.set_cons_zero, List.set_cons_succ]
          refine wpAnyH_take (i := 5) (oi := ⟨some 10, .call { callee := Callee.builtin Builtin.max, args := #[.tmp 6, .tmp 9], argTypes := #[3, 3] }, 3, "ref.go:74", #[⟨1, .data⟩, ⟨4, .data⟩], none⟩) (v := ?vn7k5) rfl (by kernel_rfl) (by kernel_rfl) (by kernel_rfl) (fun _ _ _ h => h) (Or.inl ⟨by kernel_rfl, ?yn7k5⟩) (by assumption) ?rn7k5
          case yn7k5 => intro w hSw; (try dsimp only at hSw); go_simp; try with_reducible rfl
          try simp only [Act.put, List.setIfInBounds_toArray, List.set_cons_zero, List.set_cons_succ]
          refine wpAnyH_ready (rs := [7, 10]) (by kernel_rfl) (by simp) (AllReadyH.cons (o := ⟨some 12, .load 3 (.tmp 11), 3, "ref.go:74", #[⟨6, .data⟩], none⟩) rfl (fun K hK => ?_) (AllReadyH.cons (o := ⟨some 15, .call { callee := Callee.value (.func 40), args := #[.tmp 14], argTypes := #[56] }, 3, "ref.go:74", #[⟨9, .data⟩, ⟨4, .chain⟩], none⟩) rfl (fun K hK => ?_) (AllReadyH.nil)))
          · obtain ⟨c0, c1, c2, c3, c4, fz⟩ := FW.out.facts
            have f2 := fz 2
            have f3 := fz 3
            clear fz
            go_simp
            clear c0 c1 c2 c3 c4 f2 f3
            clear hHeld
            refine hK.out _ _ (FA.out _ _ _ FW.out) (fun hHeld => ?_)
            clear hK K
            try simp only [Act.put, List.setIfInBounds_toArray, List.set_cons_zero, List.set_cons_succ]
            refine wpAnyH_take (i := 12) (oi := ⟨some 17, .fieldAddr 58 (.tmp 3) 2, 0, "ref.go:74", #[⟨0, .phase⟩, ⟨1, .phase⟩, ⟨2, .phase⟩, ⟨3, .phase⟩, ⟨4, .phase⟩, ⟨5, .phase⟩, ⟨6, .phase⟩, ⟨7, .phase⟩, ⟨8, .phase⟩, ⟨9, .phase⟩, { on := 10, ground := Ground.textOnly Departure.lateStoresUnsure }, { on := 11, ground := Ground.textOnly Departure.lateStoresUnsure }], none⟩) (v := ?vn8k12) rfl (by kernel_rfl) (by kernel_rfl) (by kernel_rfl) (fun _ _ _ h => h) (Or.inl ⟨by kernel_rfl, ?yn8k12⟩) (by assumption) ?rn8k12
            case yn8k12 => intro w hSw; (try dsimp only at hSw); go_simp; try with_reducible rfl
            try simp only [Act.put, List.setIfInBounds_toArray, List.set_cons_zero, List.set_cons_succ]
            refine wpAnyH_ready (rs := [10]) (by kernel_rfl) (by simp) (AllReadyH.cons (o := ⟨some 15, .call { callee := Callee.value (.func 40), args := #[.tmp 14], argTypes := #[56] }, 3, "ref.go:74", #[⟨9, .data⟩, ⟨4, .chain⟩], none⟩) rfl (fun K hK => ?_) (AllReadyH.nil))
            · go_simp
              refine (SH.out _).mono ?_
              rintro e y4 ⟨rfl, hb⟩
              clear hHeld
              have FW := Lib.hid (FW.out.at (hb.block g (by omega)))
              have BV := Lib.hid (BV.out.trans (hb.mono hv2))
              have hv2 : g + 1 ≤ y4.heap.size := Nat.le_trans hv2 hb.size
              clear hb
              refine hK.out _ _ (FA.out _ _ _ FW.out) (fun hHeld => ?_)
              clear hK K
              try simp only [Act.put, List.setIfInBounds_toArray, List.set_cons_zero, List.set_cons_succ]
              refine wpAnyH_take (i := 11) (oi := ⟨some 16, .call { callee := Callee.builtin Builtin.min, args := #[.tmp 12, .tmp 15], argTypes := #[3, 3] }, 3, "ref.go:74", #[⟨7, .data⟩, ⟨10, .data⟩], none⟩) (v := ?vn9k11) rfl (by kernel_rfl) (by kernel_rfl) (by kernel_rfl) (fun _ _ _ h => h) (Or.inl ⟨by kernel_rfl, ?yn9k11⟩) (by assumption) ?rn9k11
              case yn9k11 => intro w hSw; (try dsimp only at hSw); go_simp; try with_reducible rfl
              try simp only [Act.put, List.setIfInBounds_toArray, List.set_cons_zero, List.set_cons_succ]
              have BG := Lib.hid (BV.out.mono (Nat.le_succ g))
              refine wpAnyH_ready (rs := [13]) (by kernel_rfl) (by simp) (AllReadyH.cons (o := ⟨none, .store 3 (.tmp 17) (.tmp 10), 0, "ref.go:74", #[⟨12, .data⟩, ⟨5, .data⟩, ⟨10, .chain⟩, ⟨0, .phase⟩, ⟨1, .phase⟩, ⟨2, .phase⟩, ⟨3, .phase⟩, ⟨4, .phase⟩, ⟨5, .phase⟩, ⟨6, .phase⟩, ⟨7, .phase⟩, ⟨8, .phase⟩, ⟨9, .phase⟩, { on := 10, ground := Ground.textOnly Departure.lateStoresUnsure }, { on := 11, ground := Ground.textOnly Departure.lateStoresUnsure }], none⟩) rfl (fun K hK => ?_) (AllReadyH.nil))
              · obtain ⟨c0, c1, c2, c3, c4, fz⟩ := FW.out.facts
                have f2 := fz 2
                have f3 := fz 3
                clear fz
                go_simp
                clear c0 c1 c2 c3 c4 f2 f3
                rw [MXE.out]
                have fw := heap_setCell_same _ g 2 _ _ (.int .i64 (nmn l m)) FW.out
                have bg := BG.out.trans ((Below.refl g y4).setCell (p := ⟨g, 2, none⟩) (Nat.le_refl _) (.int .i64 (nmn l m)))
                generalize y4.setCell ⟨g, 2, none⟩ (.int .i64 (nmn l m)) = y5 at *
                have FW := Lib.hid (show FmC y5 g l h (nmn l m) x true from fw)
                have BG := Lib.hid bg
                clear fw bg hHeld
                refine hK.out _ _ (FA.out _ _ _ FW.out) (fun hHeld => ?_)
                clear hK K
                try simp only [Act.put, List.setIfInBounds_toArray, List.set_cons_zero, List.set_cons_succ]
                refine wpAnyH_take (i := 14) (oi := ⟨some 18, .fieldAddr 58 (.tmp 3) 3, 0, "ref.go:74", #[⟨0, .phase⟩, ⟨1, .phase⟩, ⟨2, .phase⟩, ⟨3, .phase⟩, ⟨4, .phase⟩, ⟨5, .phase⟩, ⟨6, .phase⟩, ⟨7, .phase⟩, ⟨8, .phase⟩, ⟨9, .phase⟩, ⟨10, .phase⟩, ⟨11, .phase⟩, ⟨12, .phase⟩, ⟨13, .phase⟩], none⟩) (v := ?vn10k14) rfl (by kernel_rfl) (by kernel_rfl) (by kernel_rfl) (fun _ _ _ h => h) (Or.inl ⟨by kernel_rfl, ?yn10k14⟩) (by assumption) ?rn10k14
                case yn10k14 => intro w hSw; (try dsimp only at hSw); go_simp; try with_reducible rfl
                try simp only [Act.put, List.setIfInBounds_toArray, List.set_cons_zero, List.set_cons_succ]
                refine wpAnyH_ready (rs := [15]) (by kernel_rfl) (by simp) (AllReadyH.cons (o := ⟨none, .store 3 (.tmp 18) (.tmp 16), 0, "ref.go:74", #[⟨14, .data⟩, ⟨11, .data⟩, ⟨13, .chain⟩, ⟨0, .phase⟩, ⟨1, .phase⟩, ⟨2, .phase⟩, ⟨3, .phase⟩, ⟨4, .phase⟩, ⟨5, .phase⟩, ⟨6, .phase⟩, ⟨7, .phase⟩, ⟨8, .phase⟩, ⟨9, .phase⟩, ⟨10, .phase⟩, ⟨11, .phase⟩, ⟨12, .phase⟩, ⟨13, .phase⟩], none⟩) rfl (fun K hK => ?_) (AllReadyH.nil))
                · obtain ⟨c0, c1, c2, c3, c4, fz⟩ := FW.out.facts
                  have f2 := fz 2
                  have f3 := fz 3
                  clear fz
                  go_simp
                  clear c0 c1 c2 c3 c4 f2 f3
                  rw [MNE.out]
                  have fw := heap_setCell_same _ g 3 _ _ (.int .i64 (nmx h x)) FW.out
                  have bg := BG.out.trans ((Below.refl g y5).setCell (p := ⟨g, 3, none⟩) (Nat.le_refl _) (.int .i64 (nmx h x)))
                  generalize y5.setCell ⟨g, 3, none⟩ (.int .i64 (nmx h x)) = y6 at *
                  have FW := Lib.hid (show FmC y6 g l h (nmn l m) (nmx h x) true from fw)
                  have BG := Lib.hid bg
                  clear fw bg hHeld
                  refine hK.out _ _ (FA.out _ _ _ FW.out) (fun hHeld => ?_)
                  clear hK K
                  try simp only [Act.put, List.setIfInBounds_toArray, List.set_cons_zero, List.set_cons_succ]
                  refine wpAnyH_done (by kernel_rfl) ?_ _
                  go_wp2_with fail
                  go_meet
                  exact ⟨FW.out, BG.out⟩
          · go_simp
            refine (SH.out _).mono ?_
            rintro e y7 ⟨rfl, hb⟩
            clear hHeld
            have FW := Lib.hid (FW.out.at (hb.block g (by omega)))
            have BV := Lib.hid (BV.out.trans (hb.mono hv2))
            have hv2 : g + 1 ≤ y7.heap.size := Nat.le_trans hv2 hb.size
            clear hb
            refine hK.out _ _ (FA.out _ _ _ FW.out) (fun hHeld => ?_)
            clear hK K
            try simp only [Act.put, List.setIfInBounds_toArray, List.set_cons_zero, List.set_cons_succ]
            refine wpAnyH_ready (rs := [7]) (by kernel_rfl) (by simp) (AllReadyH.cons (o := ⟨some 12, .load 3 (.tmp 11), 3, "ref.go:74", #[⟨6, .data⟩], none⟩) rfl (fun K hK => ?_) (AllReadyH.nil))
            · obtain ⟨c0, c1, c2, c3, c4, fz⟩ := FW.out.facts
              have f2 := fz 2
              have f3 := fz 3
              clear fz
              go_simp
              clear c0 c1 c2 c3 c4 f2 f3
              clear hHeld
              refine hK.out _ _ (FA.out _ _ _ FW.out) (fun hHeld => ?_)
              clear hK K
              try simp only [Act.put, List.setIfInBounds_toArray, List.set_cons_zero, List.set_cons_succ]
              refine wpAnyH_take (i := 11) (oi := ⟨some 16, .call { callee := Callee.builtin Builtin.min, args := #[.tmp 12, .tmp 15], argTypes := #[3, 3] }, 3, "ref.go:74", #[⟨7, .data⟩, ⟨10, .data⟩], none⟩) (v := ?vn11k11) rfl (by kernel_rfl) (by kernel_rfl) (by kernel_rfl) (fun _ _ _ h => h) (Or.inl ⟨by kernel_rfl, ?yn11k11⟩) (by assumption) ?rn11k11
              case yn11k11 => intro w hSw; (try dsimp only at hSw); go_simp; try with_reducible rfl
              try simp only [Act.put, List.setIfInBounds_toArray, List.set_cons_zero, List.set_cons_succ]
              refine wpAnyH_take (i := 12) (oi := ⟨some 17, .fieldAddr 58 (.tmp 3) 2, 0, "ref.go:74", #[⟨0, .phase⟩, ⟨1, .phase⟩, ⟨2, .phase⟩, ⟨3, .phase⟩, ⟨4, .phase⟩, ⟨5, .phase⟩, ⟨6, .phase⟩, ⟨7, .phase⟩, ⟨8, .phase⟩, ⟨9, .phase⟩, { on := 10, ground := Ground.textOnly Departure.lateStoresUnsure }, { on := 11, ground := Ground.textOnly Departure.lateStoresUnsure }], none⟩) (v := ?vn12k12) rfl (by kernel_rfl) (by kernel_rfl) (by kernel_rfl) (fun _ _ _ h => h) (Or.inl ⟨by kernel_rfl, ?yn12k12⟩) (by assumption) ?rn12k12
              case yn12k12 => intro w hSw; (try dsimp only at hSw); go_simp; try with_reducible rfl
              try simp only [Act.put, List.setIfInBounds_toArray, List.set_cons_zero, List.set_cons_succ]
              have BG := Lib.hid (BV.out.mono (Nat.le_succ g))
              refine wpAnyH_ready (rs := [13]) (by kernel_rfl) (by simp) (AllReadyH.cons (o := ⟨none, .store 3 (.tmp 17) (.tmp 10), 0, "ref.go:74", #[⟨12, .data⟩, ⟨5, .data⟩, ⟨10, .chain⟩, ⟨0, .phase⟩, ⟨1, .phase⟩, ⟨2, .phase⟩, ⟨3, .phase⟩, ⟨4, .phase⟩, ⟨5, .phase⟩, ⟨6, .phase⟩, ⟨7, .phase⟩, ⟨8, .phase⟩, ⟨9, .phase⟩, { on := 10, ground := Ground.textOnly Departure.lateStoresUnsure }, { on := 11, ground := Ground.textOnly Departure.lateStoresUnsure }], none⟩) rfl (fun K hK => ?_) (AllReadyH.nil))
              · obtain ⟨c0, c1, c2, c3, c4, fz⟩ := FW.out.facts
                have f2 := fz 2
                have f3 := fz 3
                clear fz
                go_simp
                clear c0 c1 c2 c3 c4 f2 f3
                rw [MXE.out]
                have fw := heap_setCell_same _ g 2 _ _ (.int .i64 (nmn l m)) FW.out
                have bg := BG.out.trans ((Below.refl g y7).setCell (p := ⟨g, 2, none⟩) (Nat.le_refl _) (.int .i64 (nmn l m)))
                generalize y7.setCell ⟨g, 2, none⟩ (.int .i64 (nmn l m)) = y9 at *
                have FW := Lib.hid (show FmC y9 g l h (nmn l m) x true from fw)
                have BG := Lib.hid bg
                clear fw bg hHeld
                refine hK.out _ _ (FA.out _ _ _ FW.out) (fun hHeld => ?_)
                clear hK K
                try simp only [Act.put, List.setIfInBounds_toArray, List.set_cons_zero, List.set_cons_succ]
                refine wpAnyH_take (i := 14) (oi := ⟨some 18, .fieldAddr 58 (.tmp 3) 3, 0, "ref.go:74", #[⟨0, .phase⟩, ⟨1, .phase⟩, ⟨2, .phase⟩, ⟨3, .phase⟩, ⟨4, .phase⟩, ⟨5, .phase⟩, ⟨6, .phase⟩, ⟨7, .phase⟩, ⟨8, .phase⟩, ⟨9, .phase⟩, ⟨10, .phase⟩, ⟨11, .phase⟩, ⟨12, .phase⟩, ⟨13, .phase⟩], none⟩) (v := ?vn13k14) rfl (by kernel_rfl) (by kernel_rfl) (by kernel_rfl) (fun _ _ _ h => h) (Or.inl ⟨by kernel_rfl, ?yn13k14⟩) (by assumption) ?rn13k14
                case yn13k14 => intro w hSw; (try dsimp only at hSw); go_simp; try with_reducible rfl
                try simp only [Act.put, List.setIfInBounds_toArray, List.set_cons_zero, List.set_cons_succ]
                refine wpAnyH_ready (rs := [15]) (by kernel_rfl) (by simp) (AllReadyH.cons (o := ⟨none, .store 3 (.tmp 18) (.tmp 16), 0, "ref.go:74", #[⟨14, .data⟩, ⟨11, .data⟩, ⟨13, .chain⟩, ⟨0, .phase⟩, ⟨1, .phase⟩, ⟨2, .phase⟩, ⟨3, .phase⟩, ⟨4, .phase⟩, ⟨5, .phase⟩, ⟨6, .phase⟩, ⟨7, .phase⟩, ⟨8, .phase⟩, ⟨9, .phase⟩, ⟨10, .phase⟩, ⟨11, .phase⟩, ⟨12, .phase⟩, ⟨13, .phase⟩], none⟩) rfl (fun K hK => ?_) (AllReadyH.nil))
                · obtain ⟨c0, c1, c2, c3, c4, fz⟩ := FW.out.facts
                  have f2 := fz 2
                  have f3 := fz 3
                  clear fz
                  go_simp
                  clear c0 c1 c2 c3 c4 f2 f3
                  rw [MNE.out]
                  have fw := heap_setCell_same _ g 3 _ _ (.int .i64 (nmx h x)) FW.out
                  have bg := BG.out.trans ((Below.refl g y9).setCell (p := ⟨g, 3, none⟩) (Nat.le_refl _) (.int .i64 (nmx h x)))
                  generalize y9.setCell ⟨g, 3, none⟩ (.int .i64 (nmx h x)) = y10 at *
                  have FW := Lib.hid (show FmC y10 g l h (nmn l m) (nmx h x) true from fw)
                  have BG := Lib.hid bg
                  clear fw bg hHeld
                  refine hK.out _ _ (FA.out _ _ _ FW.out) (fun hHeld => ?_)
                  clear hK K
                  try simp only [Act.put, List.setIfInBounds_toArray, List.set_cons_zero, List.set_cons_succ]
                  refine wpAnyH_done (by kernel_rfl) ?_ _
                  go_wp2_with fail
                  go_meet
                  exact ⟨FW.out, BG.out⟩
        · obtain ⟨c0, c1, c2, c3, c4, fz⟩ := FW.out.facts
          have f2 := fz 2
          have f3 := fz 3
          clear fz
          go_simp
          clear c0 c1 c2 c3 c4 f2 f3
          clear hHeld
          refine hK.out _ _ (FA.out _ _ _ FW.out) (fun hHeld => ?_)
          clear hK K
          try simp only [Act.put, List.setIfInBounds_toArray, List.set_cons_zero, List.set_cons_succ]
          refine wpAnyH_ready (rs := [4]) (by kernel_rfl) (by simp) (AllReadyH.cons (o := ⟨some 9, .call { callee := Callee.value (.func 40), args := #[.tmp 8], argTypes := #[56] }, 3, "ref.go:74", #[⟨3, .data⟩], none⟩) rfl (fun K hK => ?_) (AllReadyH.nil))
          · go_simp
            refine (SL.out _).mono ?_
            rintro e y12 ⟨rfl, hb⟩
            clear hHeld
            have FW := Lib.hid (FW.out.at (hb.block g (by omega)))
            have BV := Lib.hid (BV.out.trans (hb.mono hv2))
            have hv2 : g + 1 ≤ y12.heap.size := Nat.le_trans hv2 hb.size
            clear hb
            refine hK.out _ _ (FA.out _ _ _ FW.out) (fun hHeld => ?_)
            clear hK K
            try simp only [Act.put, List.setIfInBounds_toArray, List.set_cons_zero, List.set_cons_succ]
            refine wpAnyH_take (i := 5) (oi := ⟨some 10, .call { callee := Callee.builtin Builtin.max, args := #[.tmp 6, .tmp 9], argTypes := #[3, 3] }, 3, "ref.go:74", #[⟨1, .data⟩, ⟨4, .data⟩], none⟩) (v := ?vn14k5) rfl (by kernel_rfl) (by kernel_rfl) (by kernel_rfl) (fun _ _ _ h => h) (Or.inl ⟨by kernel_rfl, ?yn14k5⟩) (by assumption) ?rn14k5
            case yn14k5 => intro w hSw; (try dsimp only at hSw); go_simp; try with_reducible rfl
            try simp only [Act.put, List.setIfInBounds_toArray, List.set_cons_zero, List.set_cons_succ]
            refine wpAnyH_take (i := 12) (oi := ⟨some 17, .fieldAddr 58 (.tmp 3) 2, 0, "ref.go:74", #[⟨0, .phase⟩, ⟨1, .phase⟩, ⟨2, .phase⟩, ⟨3, .phase⟩, ⟨4, .phase⟩, ⟨5, .phase⟩, ⟨6, .phase⟩, ⟨7, .phase⟩, ⟨8, .phase⟩, ⟨9, .phase⟩, { on := 10, ground := Ground.textOnly Departure.lateStoresUnsure }, { on := 11, ground := Ground.textOnly Departure.lateStoresUnsure }], none⟩) (v := ?vn15k12) rfl (by kernel_rfl) (by kernel_rfl) (by kernel_rfl) (fun _ _ _ h => h) (Or.inl ⟨by kernel_rfl, ?yn15k12⟩) (by assumption) ?rn15k12
            case yn15k12 => intro w hSw; (try dsimp only at hSw); go_simp; try with_reducible rfl
            try simp only [Act.put, List.setIfInBounds_toArray, List.set_cons_zero, List.set_cons_succ]
            refine wpAnyH_ready (rs := [10]) (by kernel_rfl) (by simp) (AllReadyH.cons (o := ⟨some 15, .call { callee := Callee.value (.func 40), args := #[.tmp 14], argTypes := #[56] }, 3, "ref.go:74", #[⟨9, .data⟩, ⟨4, .chain⟩], none⟩) rfl (fun K hK => ?_) (AllReadyH.nil))
            · go_simp
              refine (SH.out _).mono ?_
              rintro e y13 ⟨rfl, hb⟩
              clear hHeld
              have FW := Lib.hid (FW.out.at (hb.block g (by omega)))
              have BV := Lib.hid (BV.out.trans (hb.mono hv2))
              have hv2 : g + 1 ≤ y13.heap.size := Nat.le_trans hv2 hb.size
              clear hb
              refine hK.out _ _ (FA.out _ _ _ FW.out) (fun hHeld => ?_)
              clear hK K
              try simp only [Act.put, List.setIfInBounds_toArray, List.set_cons_zero, List.set_cons_succ]
              refine wpAnyH_take (i := 11) (oi := ⟨some 16, .call { callee := Callee.builtin Builtin.min, args := #[.tmp 12, .tmp 15], argTypes := #[3, 3] }, 3, "ref.go:74", #[⟨7, .data⟩, ⟨10, .data⟩], none⟩) (v := ?vn16k11) rfl (by kernel_rfl) (by kernel_rfl) (by kernel_rfl) (fun _ _ _ h => h) (Or.inl ⟨by kernel_rfl, ?yn16k11⟩) (by assumption) ?rn16k11
              case yn16k11 => intro w hSw; (try dsimp only at hSw); go_simp; try with_reducible rfl
              try simp only [Act.put, List.setIfInBounds_toArray, List.set_cons_zero, List.set_cons_succ]
              have BG := Lib.hid (BV.out.mono (Nat.le_succ g))
              refine wpAnyH_ready (rs := [13]) (by kernel_rfl) (by simp) (AllReadyH.cons (o := ⟨none, .store 3 (.tmp 17) (.tmp 10), 0, "ref.go:74", #[⟨12, .data⟩, ⟨5, .data⟩, ⟨10, .chain⟩, ⟨0, .phase⟩, ⟨1, .phase⟩, ⟨2, .phase⟩, ⟨3, .phase⟩, ⟨4, .phase⟩, ⟨5, .phase⟩, ⟨6, .phase⟩, ⟨7, .phase⟩, ⟨8, .phase⟩, ⟨9, .phase⟩, { on := 10, ground := Ground.textOnly Departure.lateStoresUnsure }, { on := 11, ground := Ground.textOnly Departure.lateStoresUnsure }], none⟩) rfl (fun K hK => ?_) (AllReadyH.nil))
              · obtain ⟨c0, c1, c2, c3, c4, fz⟩ := FW.out.facts
                have f2 := fz 2
                have f3 := fz 3
                clear fz
                go_simp
                clear c0 c1 c2 c3 c4 f2 f3
                rw [MXE.out]
                have fw := heap_setCell_same _ g 2 _ _ (.int .i64 (nmn l m)) FW.out
                have bg := BG.out.trans ((Below.refl g y13).setCell (p := ⟨g, 2, none⟩) (Nat.le_refl _) (.int .i64 (nmn l m)))
                generalize y13.setCell ⟨g, 2, none⟩ (.int .i64 (nmn l m)) = y14 at *
                have FW := Lib.hid (show FmC y14 g l h (nmn l m) x true from fw)
                have BG := Lib.hid bg
                clear fw bg hHeld
                refine hK.out _ _ (FA.out _ _ _ FW.out) (fun hHeld => ?_)
                clear hK K
                try simp only [Act.put, List.setIfInBounds_toArray, List.set_cons_zero, List.set_cons_succ]
                refine wpAnyH_take (i := 14) (oi := ⟨some 18, .fieldAddr 58 (.tmp 3) 3, 0, "ref.go:74", #[⟨0, .phase⟩, ⟨1, .phase⟩, ⟨2, .phase⟩, ⟨3, .phase⟩, ⟨4, .phase⟩, ⟨5, .phase⟩, ⟨6, .phase⟩, ⟨7, .phase⟩, ⟨8, .phase⟩, ⟨9, .phase⟩, ⟨10, .phase⟩, ⟨11, .phase⟩, ⟨12, .phase⟩, ⟨13, .phase⟩], none⟩) (v := ?vn17k14) rfl (by kernel_rfl) (by kernel_rfl) (by kernel_rfl) (fun _ _ _ h => h) (Or.inl ⟨by kernel_rfl, ?yn17k14⟩) (by assumption) ?rn17k14
                case yn17k14 => intro w hSw; (try dsimp only at hSw); go_simp; try with_reducible rfl
                try simp only [Act.put, List.setIfInBounds_toArray, List.set_cons_zero, List.set_cons_succ]
                refine wpAnyH_ready (rs := [15]) (by kernel_rfl) (by simp) (AllReadyH.cons (o := ⟨none, .store 3 (.tmp 18) (.tmp 16), 0, "ref.go:74", #[⟨14, .data⟩, ⟨11, .data⟩, ⟨13, .chain⟩, ⟨0, .phase⟩, ⟨1, .phase⟩, ⟨2, .phase⟩, ⟨3, .phase⟩, ⟨4, .phase⟩, ⟨5, .phase⟩, ⟨6, .phase⟩, ⟨7, .phase⟩, ⟨8, .phase⟩, ⟨9, .phase⟩, ⟨10, .phase⟩, ⟨11, .phase⟩, ⟨12, .phase⟩, ⟨13, .phase⟩], none⟩) rfl (fun K hK => ?_) (AllReadyH.nil))
                · obtain ⟨c0, c1, c2, c3, c4, fz⟩ := FW.out.facts
                  have f2 := fz 2
                  have f3 := fz 3
                  clear fz
                  go_simp
                  clear c0 c1 c2 c3 c4 f2 f3
                  rw [MNE.out]
                  have fw := heap_setCell_same _ g 3 _ _ (.int .i64 (nmx h x)) FW.out
                  have bg := BG.out.trans ((Below.refl g y14).setCell (p := ⟨g, 3, none⟩) (Nat.le_refl _) (.int .i64 (nmx h x)))
                  generalize y14.setCell ⟨g, 3, none⟩ (.int .i64 (nmx h x)) = y15 at *
                  have FW := Lib.hid (show FmC y15 g l h (nmn l m) (nmx h x) true from fw)
                  have BG := Lib.hid bg
                  clear fw bg hHeld
                  refine hK.out _ _ (FA.out _ _ _ FW.out) (fun hHeld => ?_)
                  clear hK K
                  try simp only [Act.put, List.setIfInBounds_toArray, List.set_cons_zero, List.set_cons_succ]
                  refine wpAnyH_done (by kernel_rfl) ?_ _
                  go_wp2_with fail
                  go_meet
                  exact ⟨FW.out, BG.out⟩
      · go_simp
        refine (SL.out _).mono ?_
        rintro e y16 ⟨rfl, hb⟩
        clear hHeld
        have FW := Lib.hid (FW.out.at (hb.block g (by omega)))
        have BV := Lib.hid (BV.out.trans (hb.mono hv2))
        have hv2 : g + 1 ≤ y16.heap.size := Nat.le_trans hv2 hb.size
        clear hb
        refine hK.out _ _ (FA.out _ _ _ FW.out) (fun hHeld => ?_)
        clear hK K
        try simp only [Act.put, List.setIfInBounds_toArray, List.set_cons_zero, List.set_cons_succ]
        refine wpAnyH_ready (rs := [1, 7, 10]) (by kernel_rfl) (by simp) (AllReadyH.cons (o := ⟨some 6, .load 3 (.tmp 5), 3, "ref.go:74", #[⟨0, .data⟩], none⟩) rfl (fun K hK => ?_) (AllReadyH.cons (o := ⟨some 12, .load 3 (.tmp 11), 3, "ref.go:74", #[⟨6, .data⟩], none⟩) rfl (fun K hK => ?_) (AllReadyH.cons (o := ⟨some 15, .call { callee := Callee.value (.func 40), args := #[.tmp 14], argTypes := #[56] }, 3, "ref.go:74", #[⟨9, .data⟩, ⟨4, .chain⟩], none⟩) rfl (fun K hK => ?_) (AllReadyH.nil))))
        · obtain ⟨c0, c1, c2, c3, c4, fz⟩ := FW.out.facts
          have f2 := fz 2
          have f3 := fz 3
          clear fz
          go_simp
          clear c0 c1 c2 c3 c4 f2 f3
          clear hHeld
          refine hK.out _ _ (FA.out _ _ _ FW.out) (fun hHeld => ?_)
          clear hK K
          try simp only [Act.put, List.setIfInBounds_toArray, List.set_cons_zero, List.set_cons_succ]
          refine wpAnyH_take (i := 5) (oi := ⟨some 10, .call { callee := Callee.builtin Builtin.max, args := #[.tmp 6, .tmp 9], argTypes := #[3, 3] }, 3, "ref.go:74", #[⟨1, .data⟩, ⟨4, .data⟩], none⟩) (v := ?vn18k5) rfl (by kernel_rfl) (by kernel_rfl) (by kernel_rfl) (fun _ _ _ h => h) (Or.inl ⟨by kernel_rfl, ?yn18k5⟩) (by assumption) ?rn18k5
          case yn18k5 => intro w hSw; (try dsimp only at hSw); go_simp; try with_reducible rfl
          try simp only [Act.put, List.setIfInBounds_toArray, List.set_cons_zero, List.set_cons_succ]
          refine wpAnyH_ready (rs := [7, 10]) (by kernel_rfl) (by simp) (AllReadyH.cons (o := ⟨some 12, .load 3 (.tmp 11), 3, "ref.go:74", #[⟨6, .data⟩], none⟩) rfl (fun K hK => ?_) (AllReadyH.cons (o := ⟨some 15, .call { callee := Callee.value (.func 40), args := #[.tmp 14], argTypes := #[56] }, 3, "ref.go:74", #[⟨9, .data⟩, ⟨4, .chain⟩], none⟩) rfl (fun K hK => ?_) (AllReadyH.nil)))
          · obtain ⟨c0, c1, c2, c3, c4, fz⟩ := FW.out.facts
            have f2 := fz 2
            have f3 := fz 3
            clear fz
            go_simp
            clear c0 c1 c2 c3 c4 f2 f3
            clear hHeld
            refine hK.out _ _ (FA.out _ _ _ FW.out) (fun hHeld => ?_)
            clear hK K
            try simp only [Act.put, List.setIfInBounds_toArray, List.set_cons_zero, List.set_cons_succ]
            refine wpAnyH_take (i := 12) (oi := ⟨some 17, .fieldAddr 58 (.tmp 3) 2, 0, "ref.go:74", #[⟨0, .phase⟩, ⟨1, .phase⟩, ⟨2, .phase⟩, ⟨3, .phase⟩, ⟨4, .phase⟩, ⟨5, .phase⟩, ⟨6, .phase⟩, ⟨7, .phase⟩, ⟨8, .phase⟩, ⟨9, .phase⟩, { on := 10, ground := Ground.textOnly Departure.lateStoresUnsure }, { on := 11, ground := Ground.textOnly Departure.lateStoresUnsure }], none⟩) (v := ?vn19k12) rfl (by kernel_rfl) (by kernel_rfl) (by kernel_rfl) (fun _ _ _ h => h) (Or.inl ⟨by kernel_rfl, ?yn19k12⟩) (by assumption) ?rn19k12
            case yn19k12 => intro w hSw; (try dsimp only at hSw); go_simp; try with_reducible rfl
            try simp only [Act.put, List.setIfInBounds_toArray, List.set_cons_zero, List.set_cons_succ]
            refine wpAnyH_ready (rs := [10]) (by kernel_rfl) (by simp) (AllReadyH.cons (o := ⟨some 15, .call { callee := Callee.value (.func 40), args := #[.tmp 14], argTypes := #[56] }, 3, "ref.go:74", #[⟨9, .data⟩, ⟨4, .chain⟩], none⟩) rfl (fun K hK => ?_) (AllReadyH.nil))
            · go_simp
              refine (SH.out _).mono ?_
              rintro e y19 ⟨rfl, hb⟩
              clear hHeld
              have FW := Lib.hid (FW.out.at (hb.block g (by omega)))
              have BV := Lib.hid (BV.out.trans (hb.mono hv2))
              have hv2 : g + 1 ≤ y19.heap.size := Nat.le_trans hv2 hb.size
              clear hb
              refine hK.out _ _ (FA.out _ _ _ FW.out) (fun hHeld => ?_)
              clear hK K
              try simp only [Act.put, List.setIfInBounds_toArray, List.set_cons_zero, List.set_cons_succ]
              refine wpAnyH_take (i := 11) (oi := ⟨some 16, .call { callee := Callee.builtin Builtin.min, args := #[.tmp 12, .tmp 15], argTypes := #[3, 3] }, 3, "ref.go:74", #[⟨7, .data⟩, ⟨10, .data⟩], none⟩) (v := ?vn20k11) rfl (by kernel_rfl) (by kernel_rfl) (by kernel_rfl) (fun _ _ _ h => h) (Or.inl ⟨by kernel_rfl, ?yn20k11⟩) (by assumption) ?rn20k11
              case yn20k11 => intro w hSw; (try dsimp only at hSw); go_simp; try with_reducible rfl
              try simp only [Act.put, List.setIfInBounds_toArray, List.set_cons_zero, List.set_cons_succ]
              have BG := Lib.hid (BV.out.mono (Nat.le_succ g))
              refine wpAnyH_ready (rs := [13]) (by kernel_rfl) (by simp) (AllReadyH.cons (o := ⟨none, .store 3 (.tmp 17) (.tmp 10), 0, "ref.go:74", #[⟨12, .data⟩, ⟨5, .data⟩, ⟨10, .chain⟩, ⟨0, .phase⟩, ⟨1, .phase⟩, ⟨2, .phase⟩, ⟨3, .phase⟩, ⟨4, .phase⟩, ⟨5, .phase⟩, ⟨6, .phase⟩, ⟨7, .phase⟩, ⟨8, .phase⟩, ⟨9, .phase⟩, { on := 10, ground := Ground.textOnly Departure.lateStoresUnsure }, { on := 11, ground := Ground.textOnly Departure.lateStoresUnsure }], none⟩) rfl (fun K hK => ?_) (AllReadyH.nil))
              · obtain ⟨c0, c1, c2, c3, c4, fz⟩ := FW.out.facts
                have f2 := fz 2
                have f3 := fz 3
                clear fz
                go_simp
                clear c0 c1 c2 c3 c4 f2 f3
                rw [MXE.out]
                have fw := heap_setCell_same _ g 2 _ _ (.int .i64 (nmn l m)) FW.out
                have bg := BG.out.trans ((Below.refl g y19).setCell (p := ⟨g, 2, none⟩) (Nat.le_refl _) (.int .i64 (nmn l m)))
                generalize y19.setCell ⟨g, 2, none⟩ (.int .i64 (nmn l m)) = y20 at *
                have FW := Lib.hid (show FmC y20 g l h (nmn l m) x true from fw)
                have BG := Lib.hid bg
                clear fw bg hHeld
                refine hK.out _ _ (FA.out _ _ _ FW.out) (fun hHeld => ?_)
                clear hK K
                try simp only [Act.put, List.setIfInBounds_toArray, List.set_cons_zero, List.set_cons_succ]
                refine wpAnyH_take (i := 14) (oi := ⟨some 18, .fieldAddr 58 (.tmp 3) 3, 0, "ref.go:74", #[⟨0, .phase⟩, ⟨1, .phase⟩, ⟨2, .phase⟩, ⟨3, .phase⟩, ⟨4, .phase⟩, ⟨5, .phase⟩, ⟨6, .phase⟩, ⟨7, .phase⟩, ⟨8, .phase⟩, ⟨9, .phase⟩, ⟨10, .phase⟩, ⟨11, .phase⟩, ⟨12, .phase⟩, ⟨13, .phase⟩], none⟩) (v := ?vn21k14) rfl (by kernel_rfl) (by kernel_rfl) (by kernel_rfl) (fun _ _ _ h => h) (Or.inl ⟨by kernel_rfl, ?yn21k14⟩) (by assumption) ?rn21k14
                case yn21k14 => intro w hSw; (try dsimp only at hSw); go_simp; try with_reducible rfl
                try simp only [Act.put, List.setIfInBounds_toArray, List.set_cons_zero, List.set_cons_succ]
                refine wpAnyH_ready (rs := [15]) (by kernel_rfl) (by simp) (AllReadyH.cons (o := ⟨none, .store 3 (.tmp 18) (.tmp 16), 0, "ref.go:74", #[⟨14, .data⟩, ⟨11, .data⟩, ⟨13, .chain⟩, ⟨0, .phase⟩, ⟨1, .phase⟩, ⟨2, .phase⟩, ⟨3, .phase⟩, ⟨4, .phase⟩, ⟨5, .phase⟩, ⟨6, .phase⟩, ⟨7, .phase⟩, ⟨8, .phase⟩, ⟨9, .phase⟩, ⟨10, .phase⟩, ⟨11, .phase⟩, ⟨12, .phase⟩, ⟨13, .phase⟩], none⟩) rfl (fun K hK => ?_) (AllReadyH.nil))
                · obtain ⟨c0, c1, c2, c3, c4, fz⟩ := FW.out.facts
                  have f2 := fz 2
                  have f3 := fz 3
                  clear fz
                  go_simp
                  clear c0 c1 c2 c3 c4 f2 f3
                  rw [MNE.out]
                  have fw := heap_setCell_same _ g 3 _ _ (.int .i64 (nmx h x)) FW.out
                  have bg := BG.out.trans ((Below.refl g y20).setCell (p := ⟨g, 3, none⟩) (Nat.le_refl _) (.int .i64 (nmx h x)))
                  generalize y20.setCell ⟨g, 3, none⟩ (.int .i64 (nmx h x)) = y21 at *
                  have FW := Lib.hid (show FmC y21 g l h (nmn l m) (nmx h x) true from fw)
                  have BG := Lib.hid bg
                  clear fw bg hHeld
                  refine hK.out _ _ (FA.out _ _ _ FW.out) (fun hHeld => ?_)
                  clear hK K
                  try simp only [Act.put, List.setIfInBounds_toArray, List.set_cons_zero, List.set_cons_succ]
                  refine wpAnyH_done (by kernel_rfl) ?_ _
                  go_wp2_with fail
                  go_meet
                  exact ⟨FW.out, BG.out⟩
          · go_simp
            refine (SH.out _).mono ?_
            rintro e y22 ⟨rfl, hb⟩
            clear hHeld
            have FW := Lib.hid (FW.out.at (hb.block g (by omega)))
            have BV := Lib.hid (BV.out.trans (hb.mono hv2))
            have hv2 : g + 1 ≤ y22.heap.size := Nat.le_trans hv2 hb.size
            clear hb
            refine hK.out _ _ (FA.out _ _ _ FW.out) (fun hHeld => ?_)
            clear hK K
            try simp only [Act.put, List.setIfInBounds_toArray, List.set_cons_zero, List.set_cons_succ]
            refine wpAnyH_ready (rs := [7]) (by kernel_rfl) (by simp) (AllReadyH.cons (o := ⟨some 12, .load 3 (.tmp 11), 3, "ref.go:74", #[⟨6, .data⟩], none⟩) rfl (fun K hK => ?_) (AllReadyH.nil))
            · obtain ⟨c0, c1, c2, c3, c4, fz⟩ := FW.out.facts
              have f2 := fz 2
              have f3 := fz 3
              clear fz
              go_simp
              clear c0 c1 c2 c3 c4 f2 f3
              clear hHeld
              refine hK.out _ _ (FA.out _ _ _ FW.out) (fun hHeld => ?_)
              clear hK K
              try simp only [Act.put, List.setIfInBounds_toArray, List.set_cons_zero, List.set_cons_succ]
              refine wpAnyH_take (i := 11) (oi := ⟨some 16, .call { callee := Callee.builtin Builtin.min, args := #[.tmp 12, .tmp 15], argTypes := #[3, 3] }, 3, "ref.go:74", #[⟨7, .data⟩, ⟨10, .data⟩], none⟩) (v := ?vn22k11) rfl (by kernel_rfl) (by kernel_rfl) (by kernel_rfl) (fun _ _ _ h => h) (Or.inl ⟨by kernel_rfl, ?yn22k11⟩) (by assumption) ?rn22k11
              case yn22k11 => intro w hSw; (try dsimp only at hSw); go_simp; try with_reducible rfl
              try simp only [Act.put, List.setIfInBounds_toArray, List.set_cons_zero, List.set_cons_succ]
              refine wpAnyH_take (i := 12) (oi := ⟨some 17, .fieldAddr 58 (.tmp 3) 2, 0, "ref.go:74", #[⟨0, .phase⟩, ⟨1, .phase⟩, ⟨2, .phase⟩, ⟨3, .phase⟩, ⟨4, .phase⟩, ⟨5, .phase⟩, ⟨6, .phase⟩, ⟨7, .phase⟩, ⟨8, .phase⟩, ⟨9, .phase⟩, { on := 10, ground := Ground.textOnly Departure.lateStoresUnsure }, { on := 11, ground := Ground.textOnly Departure.lateStoresUnsure }], none⟩) (v := ?vn23k12) rfl (by kernel_rfl) (by kernel_rfl) (by kernel_rfl) (fun _ _ _ h => h) (Or.inl ⟨by kernel_rfl, ?yn23k12⟩) (by assumption) ?rn23k12
              case yn23k12 => intro w hSw; (try dsimp only at hSw); go_simp; try with_reducible rfl
              try simp only [Act.put, List.setIfInBounds_toArray, List.set_cons_zero, List.set_cons_succ]
              have BG := Lib.hid (BV.out.mono (Nat.le_succ g))
              refine wpAnyH_ready (rs := [13]) (by kernel_rfl) (by simp) (AllReadyH.cons (o := ⟨none, .store 3 (.tmp 17) (.tmp 10), 0, "ref.go:74", #[⟨12, .data⟩, ⟨5, .data⟩, ⟨10, .chain⟩, ⟨0, .phase⟩, ⟨1, .phase⟩, ⟨2, .phase⟩, ⟨3, .phase⟩, ⟨4, .phase⟩, ⟨5, .phase⟩, ⟨6, .phase⟩, ⟨7, .phase⟩, ⟨8, .phase⟩, ⟨9, .phase⟩, { on := 10, ground := Ground.textOnly Departure.lateStoresUnsure }, { on := 11, ground := Ground.textOnly Departure.lateStoresUnsure }], none⟩) rfl (fun K hK => ?_) (AllReadyH.nil))
              · obtain ⟨c0, c1, c2, c3, c4, fz⟩ := FW.out.facts
                have f2 := fz 2
                have f3 := fz 3
                clear fz
                go_simp
                clear c0 c1 c2 c3 c4 f2 f3
                rw [MXE.out]
                have fw := heap_setCell_same _ g 2 _ _ (.int .i64 (nmn l m)) FW.out
                have bg := BG.out.trans ((Below.refl g y22).setCell (p := ⟨g, 2, none⟩) (Nat.le_refl _) (.int .i64 (nmn l m)))
                generalize y22.setCell ⟨g, 2, none⟩ (.int .i64 (nmn l m)) = y24 at *
                have FW := Lib.hid (show FmC y24 g l h (nmn l m) x true from fw)
                have BG := Lib.hid bg
                clear fw bg hHeld
                refine hK.out _ _ (FA.out _ _ _ FW.out) (fun hHeld => ?_)
                clear hK K
                try simp only [Act.put, List.setIfInBounds_toArray, List.set_cons_zero, List.set_cons_succ]
                refine wpAnyH_take (i := 14) (oi := ⟨some 18, .fieldAddr 58 (.tmp 3) 3, 0, "ref.go:74", #[⟨0, .phase⟩, ⟨1, .phase⟩, ⟨2, .phase⟩, ⟨3, .phase⟩, ⟨4, .phase⟩, ⟨5, .phase⟩, ⟨6, .phase⟩, ⟨7, .phase⟩, ⟨8, .phase⟩, ⟨9, .phase⟩, ⟨10, .phase⟩, ⟨11, .phase⟩, ⟨12, .phase⟩, ⟨13, .phase⟩], none⟩) (v := ?vn24k14) rfl (by kernel_rfl) (by kernel_rfl) (by kernel_rfl) (fun _ _ _ h => h) (Or.inl ⟨by kernel_rfl, ?yn24k14⟩) (by assumption) ?rn24k14
                case yn24k14 => intro w hSw; (try dsimp only at hSw); go_simp; try with_reducible rfl
                try simp only [Act.put, List.setIfInBounds_toArray, List.set_cons_zero, List.set_cons_succ]
                refine wpAnyH_ready (rs := [15]) (by kernel_rfl) (by simp) (AllReadyH.cons (o := ⟨none, .store 3 (.tmp 18) (.tmp 16), 0, "ref.go:74", #[⟨14, .data⟩, ⟨11, .data⟩, ⟨13, .chain⟩, ⟨0, .phase⟩, ⟨1, .phase⟩, ⟨2, .phase⟩, ⟨3, .phase⟩, ⟨4, .phase⟩, ⟨5, .phase⟩, ⟨6, .phase⟩, ⟨7, .phase⟩, ⟨8, .phase⟩, ⟨9, .phase⟩, ⟨10, .phase⟩, ⟨11, .phase⟩, ⟨12, .phase⟩, ⟨13, .phase⟩], none⟩) rfl (fun K hK => ?_) (AllReadyH.nil))
                · obtain ⟨c0, c1, c2, c3, c4, fz⟩ := FW.out.facts
                  have f2 := fz 2
                  have f3 := fz 3
                  clear fz
                  go_simp
                  clear c0 c1 c2 c3 c4 f2 f3
                  rw [MNE.out]
                  have fw := heap_setCell_same _ g 3 _ _ (.int .i64 (nmx h x)) FW.out
                  have bg := BG.out.trans ((Below.refl g y24).setCell (p := ⟨g, 3, none⟩) (Nat.le_refl _) (.int .i64 (nmx h x)))
                  generalize y24.setCell ⟨g, 3, none⟩ (.int .i64 (nmx h x)) = y25 at *
                  have FW := Lib.hid (show FmC y25 g l h (nmn l m) (nmx h x) true from fw)
                  have BG := Lib.hid bg
                  clear fw bg hHeld
                  refine hK.out _ _ (FA.out _ _ _ FW.out) (fun hHeld => ?_)
                  clear hK K
                  try simp only [Act.put, List.setIfInBounds_toArray, List.set_cons_zero, List.set_cons_succ]
                  refine wpAnyH_done (by kernel_rfl) ?_ _
                  go_wp2_with fail
                  go_meet
                  exact ⟨FW.out, BG.out⟩
        · obtain ⟨c0, c1, c2, c3, c4, fz⟩ := FW.out.facts
          have f2 := fz 2
          have f3 := fz 3
          clear fz
          go_simp
          clear c0 c1 c2 c3 c4 f2 f3
          clear hHeld
          refine hK.out _ _ (FA.out _ _ _ FW.out) (fun hHeld => ?_)
          clear hK K
          try simp only [Act.put, List.setIfInBounds_toArray, List.set_cons_zero, List.set_cons_succ]
          refine wpAnyH_ready (rs := [1, 10]) (by kernel_rfl) (by simp) (AllReadyH.cons (o := ⟨some 6, .load 3 (.tmp 5), 3, "ref.go:74", #[⟨0, .data⟩], none⟩) rfl (fun K hK => ?_) (AllReadyH.cons (o := ⟨some 15, .call { callee := Callee.value (.func 40), args := #[.tmp 14], argTypes := #[56] }, 3, "ref.go:74", #[⟨9, .data⟩, ⟨4, .chain⟩], none⟩) rfl (fun K hK => ?_) (AllReadyH.nil)))
          · obtain ⟨c0, c1, c2, c3, c4, fz⟩ := FW.out.facts
            have f2 := fz 2
            have f3 := fz 3
            clear fz
            go_simp
            clear c0 c1 c2 c3 c4 f2 f3
            clear hHeld
            refine hK.out _ _ (FA.out _ _ _ FW.out) (fun hHeld => ?_)
            clear hK K
            try simp only [Act.put, List.setIfInBounds_toArray, List.set_cons_zero, List.set_cons_succ]
            refine wpAnyH_take (i := 5) (oi := ⟨some 10, .call { callee := Callee.builtin Builtin.max, args := #[.tmp 6, .tmp 9], argTypes := #[3, 3] }, 3, "ref.go:74", #[⟨1, .data⟩, ⟨4, .data⟩], none⟩) (v := ?vn25k5) rfl (by kernel_rfl) (by kernel_rfl) (by kernel_rfl) (fun _ _ _ h => h) (Or.inl ⟨by kernel_rfl, ?yn25k5⟩) (by assumption) ?rn25k5
            case yn25k5 => intro w hSw; (try dsimp only at hSw); go_simp; try with_reducible rfl
            try simp only [Act.put, List.setIfInBounds_toArray, List.set_cons_zero, List.set_cons_succ]
            refine wpAnyH_take (i := 12) (oi := ⟨some 17, .fieldAddr 58 (.tmp 3) 2, 0, "ref.go:74", #[⟨0, .phase⟩, ⟨1, .phase⟩, ⟨2, .phase⟩, ⟨3, .phase⟩, ⟨4, .phase⟩, ⟨5, .phase⟩, ⟨6, .phase⟩, ⟨7, .phase⟩, ⟨8, .phase⟩, ⟨9, .phase⟩, { on := 10, ground := Ground.textOnly Departure.lateStoresUnsure }, { on := 11, ground := Ground.textOnly Departure.lateStoresUnsure }], none⟩) (v := ?vn26k12) rfl (by kernel_rfl) (by kernel_rfl) (by kernel_rfl) (fun _ _ _ h => h) (Or.inl ⟨by kernel_rfl, ?yn26k12⟩) (by assumption) ?rn26k12
            case yn26k12 => intro w hSw; (try dsimp only at hSw); go_simp; try with_reducible rfl
            try simp only [Act.put, List.setIfInBounds_toArray, List.set_cons_zero, List.set_cons_succ]
            refine wpAnyH_ready (rs := [10]) (by kernel_rfl) (by simp) (AllReadyH.cons (o := ⟨some 15, .call { callee := Callee.value (.func 40), args := #[.tmp 14], argTypes := #[56] }, 3, "ref.go:74", #[⟨9, .data⟩, ⟨4, .chain⟩], none⟩) rfl (fun K hK => ?_) (AllReadyH.nil))
            · go_simp
              refine (SH.out _).mono ?_
              rintro e y28 ⟨rfl, hb⟩
              clear hHeld
              have FW := Lib.hid (FW.out.at (hb.block g (by omega)))
              have BV := Lib.hid (BV.out.trans (hb.mono hv2))
              have hv2 : g + 1 ≤ y28.heap.size := Nat.le_trans hv2 hb.size
              clear hb
              refine hK.out _ _ (FA.out _ _ _ FW.out) (fun hHeld => ?_)
              clear hK K
              try simp only [Act.put, List.setIfInBounds_toArray, List.set_cons_zero, List.set_cons_succ]
              refine wpAnyH_take (i := 11) (oi := ⟨some 16, .call { callee := Callee.builtin Builtin.min, args := #[.tmp 12, .tmp 15], argTypes := #[3, 3] }, 3, "ref.go:74", #[⟨7, .data⟩, ⟨10, .data⟩], none⟩) (v := ?vn27k11) rfl (by kernel_rfl) (by kernel_rfl) (by kernel_rfl) (fun _ _ _ h => h) (Or.inl ⟨by kernel_rfl, ?yn27k11⟩) (by assumption) ?rn27k11
              case yn27k11 => intro w hSw; (try dsimp only at hSw); go_simp; try with_reducible rfl
              try simp only [Act.put, List.setIfInBounds_toArray, List.set_cons_zero, List.set_cons_succ]
              have BG := Lib.hid (BV.out.mono (Nat.le_succ g))
              refine wpAnyH_ready (rs := [13]) (by kernel_rfl) (by simp) (AllReadyH.cons (o := ⟨none, .store 3 (.tmp 17) (.tmp 10), 0, "ref.go:74", #[⟨12, .data⟩, ⟨5, .data⟩, ⟨10, .chain⟩, ⟨0, .phase⟩, ⟨1, .phase⟩, ⟨2, .phase⟩, ⟨3, .phase⟩, ⟨4, .phase⟩, ⟨5, .phase⟩, ⟨6, .phase⟩, ⟨7, .phase⟩, ⟨8, .phase⟩, ⟨9, .phase⟩, { on := 10, ground := Ground.textOnly Departure.lateStoresUnsure }, { on := 11, ground := Ground.textOnly Departure.lateStoresUnsure }], none⟩) rfl (fun K hK => ?_) (AllReadyH.nil))
              · obtain ⟨c0, c1, c2, c3, c4, fz⟩ := FW.out.facts
                have f2 := fz 2
                have f3 := fz 3
                clear fz
                go_simp
                clear c0 c1 c2 c3 c4 f2 f3
                rw [MXE.out]
                have fw := heap_setCell_same _ g 2 _ _ (.int .i64 (nmn l m)) FW.out
                have bg := BG.out.trans ((Below.refl g y28).setCell (p := ⟨g, 2, none⟩) (Nat.le_refl _) (.int .i64 (nmn l m)))
                generalize y28.setCell ⟨g, 2, none⟩ (.int .i64 (nmn l m)) = y29 at *
                have FW := Lib.hid (show FmC y29 g l h (nmn l m) x true from fw)
                have BG := Lib.hid bg
                clear fw bg hHeld
                refine hK.out _ _ (FA.out _ _ _ FW.out) (fun hHeld => ?_)
                clear hK K
                try simp only [Act.put, List.setIfInBounds_toArray, List.set_cons_zero, List.set_cons_succ]
                refine wpAnyH_take (i := 14) (oi := ⟨some 18, .fieldAddr 58 (.tmp 3) 3, 0, "ref.go:74", #[⟨0, .phase⟩, ⟨1, .phase⟩, ⟨2, .phase⟩, ⟨3, .phase⟩, ⟨4, .phase⟩, ⟨5, .phase⟩, ⟨6, .phase⟩, ⟨7, .phase⟩, ⟨8, .phase⟩, ⟨9, .phase⟩, ⟨10, .phase⟩, ⟨11, .phase⟩, ⟨12, .phase⟩, ⟨13, .phase⟩], none⟩) (v := ?vn28k14) rfl (by kernel_rfl) (by kernel_rfl) (by kernel_rfl) (fun _ _ _ h => h) (Or.inl ⟨by kernel_rfl, ?yn28k14⟩) (by assumption) ?rn28k14
                case yn28k14 => intro w hSw; (try dsimp only at hSw); go_simp; try with_reducible rfl
                try simp only [Act.put, List.setIfInBounds_toArray, List.set_cons_zero, List.set_cons_succ]
                refine wpAnyH_ready (rs := [15]) (by kernel_rfl) (by simp) (AllReadyH.cons (o := ⟨none, .store 3 (.tmp 18) (.tmp 16), 0, "ref.go:74", #[⟨14, .data⟩, ⟨11, .data⟩, ⟨13, .chain⟩, ⟨0, .phase⟩, ⟨1, .phase⟩, ⟨2, .phase⟩, ⟨3, .phase⟩, ⟨4, .phase⟩, ⟨5, .phase⟩, ⟨6, .phase⟩, ⟨7, .phase⟩, ⟨8, .phase⟩, ⟨9, .phase⟩, ⟨10, .phase⟩, ⟨11, .phase⟩, ⟨12, .phase⟩, ⟨13, .phase⟩], none⟩) rfl (fun K hK => ?_) (AllReadyH.nil))
                · obtain ⟨c0, c1, c2, c3, c4, fz⟩ := FW.out.facts
                  have f2 := fz 2
                  have f3 := fz 3
                  clear fz
                  go_simp
                  clear c0 c1 c2 c3 c4 f2 f3
                  rw [MNE.out]
                  have fw := heap_setCell_same _ g 3 _ _ (.int .i64 (nmx h x)) FW.out
                  have bg := BG.out.trans ((Below.refl g y29).setCell (p := ⟨g, 3, none⟩) (Nat.le_refl _) (.int .i64 (nmx h x)))
                  generalize y29.setCell ⟨g, 3, none⟩ (.int .i64 (nmx h x)) = y30 at *
                  have FW := Lib.hid (show FmC y30 g l h (nmn l m) (nmx h x) true from fw)
                  have BG := Lib.hid bg
                  clear fw bg hHeld
                  refine hK.out _ _ (FA.out _ _ _ FW.out) (fun hHeld => ?_)
                  clear hK K
                  try simp only [Act.put, List.setIfInBounds_toArray, List.set_cons_zero, List.set_cons_succ]
                  refine wpAnyH_done (by kernel_rfl) ?_ _
                  go_wp2_with fail
                  go_meet
                  exact ⟨FW.out, BG.out⟩
          · go_simp
            refine (SH.out _).mono ?_
            rintro e y31 ⟨rfl, hb⟩
            clear hHeld
            have FW := Lib.hid (FW.out.at (hb.block g (by omega)))
            have BV := Lib.hid (BV.out.trans (hb.mono hv2))
            have hv2 : g + 1 ≤ y31.heap.size := Nat.le_trans hv2 hb.size
            clear hb
            refine hK.out _ _ (FA.out _ _ _ FW.out) (fun hHeld => ?_)
            clear hK K
            try simp only [Act.put, List.setIfInBounds_toArray, List.set_cons_zero, List.set_cons_succ]
            refine wpAnyH_take (i := 11) (oi := ⟨some 16, .call { callee := Callee.builtin Builtin.min, args := #[.tmp 12, .tmp 15], argTypes := #[3, 3] }, 3, "ref.go:74", #[⟨7, .data⟩, ⟨10, .data⟩], none⟩) (v := ?vn29k11) rfl (by kernel_rfl) (by kernel_rfl) (by kernel_rfl) (fun _ _ _ h => h) (Or.inl ⟨by kernel_rfl, ?yn29k11⟩) (by assumption) ?rn29k11
            case yn29k11 => intro w hSw; (try dsimp only at hSw); go_simp; try with_reducible rfl
            try simp only [Act.put, List.setIfInBounds_toArray, List.set_cons_zero, List.set_cons_succ]
            refine wpAnyH_ready (rs := [1]) (by kernel_rfl) (by simp) (AllReadyH.cons (o := ⟨some 6, .load 3 (.tmp 5), 3, "ref.go:74", #[⟨0, .data⟩], none⟩) rfl (fun K hK => ?_) (AllReadyH.nil))
            · obtain ⟨c0, c1, c2, c3, c4, fz⟩ := FW.out.facts
              have f2 := fz 2
              have f3 := fz 3
              clear fz
              go_simp
              clear c0 c1 c2 c3 c4 f2 f3
              clear hHeld
              refine hK.out _ _ (FA.out _ _ _ FW.out) (fun hHeld => ?_)
              clear hK K
              try simp only [Act.put, List.setIfInBounds_toArray, List.set_cons_zero, List.set_cons_succ]
              refine wpAnyH_take (i := 5) (oi := ⟨some 10, .call { callee := Callee.builtin Builtin.max, args := #[.tmp 6, .tmp 9], argTypes := #[3, 3] }, 3, "ref.go:74", #[⟨1, .data⟩, ⟨4, .data⟩], none⟩) (v := ?vn30k5) rfl (by kernel_rfl) (by kernel_rfl) (by kernel_rfl) (fun _ _ _ h => h) (Or.inl ⟨by kernel_rfl, ?yn30k5⟩) (by assumption) ?rn30k5
              case yn30k5 => intro w hSw; (try dsimp only at hSw); go_simp; try with_reducible rfl
              try simp only [Act.put, List.setIfInBounds_toArray, List.set_cons_zero, List.set_cons_succ]
              refine wpAnyH_take (i := 12) (oi := ⟨some 17, .fieldAddr 58 (.tmp 3) 2, 0, "ref.go:74", #[⟨0, .phase⟩, ⟨1, .phase⟩, ⟨2, .phase⟩, ⟨3, .phase⟩, ⟨4, .phase⟩, ⟨5, .phase⟩, ⟨6, .phase⟩, ⟨7, .phase⟩, ⟨8, .phase⟩, ⟨9, .phase⟩, { on := 10, ground := Ground.textOnly Departure.lateStoresUnsure }, { on := 11, ground := Ground.textOnly Departure.lateStoresUnsure }], none⟩) (v := ?vn31k12) rfl (by kernel_rfl) (by kernel_rfl) (by kernel_rfl) (fun _ _ _ h => h) (Or.inl ⟨by kernel_rfl, ?yn31k12⟩) (by assumption) ?rn31k12
              case yn31k12 => intro w hSw; (try dsimp only at hSw); go_simp; try with_reducible rfl
              try simp only [Act.put, List.setIfInBounds_toArray, List.set_cons_zero, List.set_cons_succ]
              have BG := Lib.hid (BV.out.mono (Nat.le_succ g))
              refine wpAnyH_ready (rs := [13]) (by kernel_rfl) (by simp) (AllReadyH.cons (o := ⟨none, .store 3 (.tmp 17) (.tmp 10), 0, "ref.go:74", #[⟨12, .data⟩, ⟨5, .data⟩, ⟨10, .chain⟩, ⟨0, .phase⟩, ⟨1, .phase⟩, ⟨2, .phase⟩, ⟨3, .phase⟩, ⟨4, .phase⟩, ⟨5, .phase⟩, ⟨6, .phase⟩, ⟨7, .phase⟩, ⟨8, .phase⟩, ⟨9, .phase⟩, { on := 10, ground := Ground.textOnly Departure.lateStoresUnsure }, { on := 11, ground := Ground.textOnly Departure.lateStoresUnsure }], none⟩) rfl (fun K hK => ?_) (AllReadyH.nil))
              · obtain ⟨c0, c1, c2, c3, c4, fz⟩ := FW.out.facts
                have f2 := fz 2
                have f3 := fz 3
                clear fz
                go_simp
                clear c0 c1 c2 c3 c4 f2 f3
                rw [MXE.out]
                have fw := heap_setCell_same _ g 2 _ _ (.int .i64 (nmn l m)) FW.out
                have bg := BG.out.trans ((Below.refl g y31).setCell (p := ⟨g, 2, none⟩) (Nat.le_refl _) (.int .i64 (nmn l m)))
                generalize y31.setCell ⟨g, 2, none⟩ (.int .i64 (nmn l m)) = y33 at *
                have FW := Lib.hid (show FmC y33 g l h (nmn l m) x true from fw)
                have BG := Lib.hid bg
                clear fw bg hHeld
                refine hK.out _ _ (FA.out _ _ _ FW.out) (fun hHeld => ?_)
                clear hK K
                try simp only [Act.put, List.setIfInBounds_toArray, List.set_cons_zero, List.set_cons_succ]
                refine wpAnyH_take (i := 14) (oi := ⟨some 18, .fieldAddr 58 (.tmp 3) 3, 0, "ref.go:74", #[⟨0, .phase⟩, ⟨1, .phase⟩, ⟨2, .phase⟩, ⟨3, .phase⟩, ⟨4, .phase⟩, ⟨5, .phase⟩, ⟨6, .phase⟩, ⟨7, .phase⟩, ⟨8, .phase⟩, ⟨9, .phase⟩, ⟨10, .phase⟩, ⟨11, .phase⟩, ⟨12, .phase⟩, ⟨13, .phase⟩], none⟩) (v := ?vn32k14) rfl (by kernel_rfl) (by kernel_rfl) (by kernel_rfl) (fun _ _ _ h => h) (Or.inl ⟨by kernel_rfl, ?yn32k14⟩) (by assumption) ?rn32k14
                case yn32k14 => intro w hSw; (try dsimp only at hSw); go_simp; try with_reducible rfl
                try simp only [Act.put, List.setIfInBounds_toArray, List.set_cons_zero, List.set_cons_succ]
                refine wpAnyH_ready (rs := [15]) (by kernel_rfl) (by simp) (AllReadyH.cons (o := ⟨none, .store 3 (.tmp 18) (.tmp 16), 0, "ref.go:74", #[⟨14, .data⟩, ⟨11, .data⟩, ⟨13, .chain⟩, ⟨0, .phase⟩, ⟨1, .phase⟩, ⟨2, .phase⟩, ⟨3, .phase⟩, ⟨4, .phase⟩, ⟨5, .phase⟩, ⟨6, .phase⟩, ⟨7, .phase⟩, ⟨8, .phase⟩, ⟨9, .phase⟩, ⟨10, .phase⟩, ⟨11, .phase⟩, ⟨12, .phase⟩, ⟨13, .phase⟩], none⟩) rfl (fun K hK => ?_) (AllReadyH.nil))
                · obtain ⟨c0, c1, c2, c3, c4, fz⟩ := FW.out.facts
                  have f2 := fz 2
                  have f3 := fz 3
                  clear fz
                  go_simp
                  clear c0 c1 c2 c3 c4 f2 f3
                  rw [MNE.out]
                  have fw := heap_setCell_same _ g 3 _ _ (.int .i64 (nmx h x)) FW.out
                  have bg := BG.out.trans ((Below.refl g y33).setCell (p := ⟨g, 3, none⟩) (Nat.le_refl _) (.int .i64 (nmx h x)))
                  generalize y33.setCell ⟨g, 3, none⟩ (.int .i64 (nmx h x)) = y34 at *
                  have FW := Lib.hid (show FmC y34 g l h (nmn l m) (nmx h x) true from fw)
                  have BG := Lib.hid bg
                  clear fw bg hHeld
                  refine hK.out _ _ (FA.out _ _ _ FW.out) (fun hHeld => ?_)
                  clear hK K
                  try simp only [Act.put, List.setIfInBounds_toArray, List.set_cons_zero, List.set_cons_succ]
                  refine wpAnyH_done (by kernel_rfl) ?_ _
                  go_wp2_with fail
                  go_meet
                  exact ⟨FW.out, BG.out⟩
        · go_simp
          refine (SH.out _).mono ?_
          rintro e y35 ⟨rfl, hb⟩
          clear hHeld
          have FW := Lib.hid (FW.out.at (hb.block g (by omega)))
          have BV := Lib.hid (BV.out.trans (hb.mono hv2))
          have hv2 : g + 1 ≤ y35.heap.size := Nat.le_trans hv2 hb.size
          clear hb
          refine hK.out _ _ (FA.out _ _ _ FW.out) (fun hHeld => ?_)
          clear hK K
          try simp only [Act.put, List.setIfInBounds_toArray, List.set_cons_zero, List.set_cons_succ]
          refine wpAnyH_ready (rs := [1, 7]) (by kernel_rfl) (by simp) (AllReadyH.cons (o := ⟨some 6, .load 3 (.tmp 5), 3, "ref.go:74", #[⟨0, .data⟩], none⟩) rfl (fun K hK => ?_) (AllReadyH.cons (o := ⟨some 12, .load 3 (.tmp 11), 3, "ref.go:74", #[⟨6, .data⟩], none⟩) rfl (fun K hK => ?_) (AllReadyH.nil)))
          · obtain ⟨c0, c1, c2, c3, c4, fz⟩ := FW.out.facts
            have f2 := fz 2
            have f3 := fz 3
            clear fz
            go_simp
            clear c0 c1 c2 c3 c4 f2 f3
            clear hHeld
            refine hK.out _ _ (FA.out _ _ _ FW.out) (fun hHeld => ?_)
            clear hK K
            try simp only [Act.put, List.setIfInBounds_toArray, List.set_cons_zero, List.set_cons_succ]
            refine wpAnyH_take (i := 5) (oi := ⟨some 10, .call { callee := Callee.builtin Builtin.max, args := #[.tmp 6, .tmp 9], argTypes := #[3, 3] }, 3, "ref.go:74", #[⟨1, .data⟩, ⟨4, .data⟩], none⟩) (v := ?vn33k5) rfl (by kernel_rfl) (by kernel_rfl) (by kernel_rfl) (fun _ _ _ h => h) (Or.inl ⟨by kernel_rfl, ?yn33k5⟩) (by assumption) ?rn33k5
            case yn33k5 => intro w hSw; (try dsimp only at hSw); go_simp; try with_reducible rfl
            try simp only [Act.put, List.setIfInBounds_toArray, List.set_cons_zero, List.set_cons_succ]
            refine wpAnyH_ready (rs := [7]) (by kernel_rfl) (by simp) (AllReadyH.cons (o := ⟨some 12, .load 3 (.tmp 11), 3, "ref.go:74", #[⟨6, .data⟩], none⟩) rfl (fun K hK => ?_) (AllReadyH.nil))
            · obtain ⟨c0, c1, c2, c3, c4, fz⟩ := FW.out.facts
              have f2 := fz 2
              have f3 := fz 3
              clear fz
              go_simp
              clear c0 c1 c2 c3 c4 f2 f3
              clear hHeld
              refine hK.out _ _ (FA.out _ _ _ FW.out) (fun hHeld => ?_)
              clear hK K
              try simp only [Act.put, List.setIfInBounds_toArray, List.set_cons_zero, List.set_cons_succ]
              refine wpAnyH_take (i := 11) (oi := ⟨some 16, .call { callee := Callee.builtin Builtin.min, args := #[.tmp 12, .tmp 15], argTypes := #[3, 3] }, 3, "ref.go:74", #[⟨7, .data⟩, ⟨10, .data⟩], none⟩) (v := ?vn34k11) rfl (by kernel_rfl) (by kernel_rfl) (by kernel_rfl) (fun _ _ _ h => h) (Or.inl ⟨by kernel_rfl, ?yn34k11⟩) (by assumption) ?rn34k11
              case yn34k11 => intro w hSw; (try dsimp only at hSw); go_simp; try with_reducible rfl
              try simp only [Act.put, List.setIfInBounds_toArray, List.set_cons_zero, List.set_cons_succ]
              refine wpAnyH_take (i := 12) (oi := ⟨some 17, .fieldAddr 58 (.tmp 3) 2, 0, "ref.go:74", #[⟨0, .phase⟩, ⟨1, .phase⟩, ⟨2, .phase⟩, ⟨3, .phase⟩, ⟨4, .phase⟩, ⟨5, .phase⟩, ⟨6, .phase⟩, ⟨7, .phase⟩, ⟨8, .phase⟩, ⟨9, .phase⟩, { on := 10, ground := Ground.textOnly Departure.lateStoresUnsure }, { on := 11, ground := Ground.textOnly Departure.lateStoresUnsure }], none⟩) (v := ?vn35k12) rfl (by kernel_rfl) (by kernel_rfl) (by kernel_rfl) (fun _ _ _ h => h) (Or.inl ⟨by kernel_rfl, ?yn35k12⟩) (by assumption) ?rn35k12
              case yn35k12 => intro w hSw; (try dsimp only at hSw); go_simp; try with_reducible rfl
              try simp only [Act.put, List.setIfInBounds_toArray, List.set_cons_zero, List.set_cons_succ]
              have BG := Lib.hid (BV.out.mono (Nat.le_succ g))
              refine wpAnyH_ready (rs := [13]) (by kernel_rfl) (by simp) (AllReadyH.cons (o := ⟨none, .store 3 (.tmp 17) (.tmp 10), 0, "ref.go:74", #[⟨12, .data⟩, ⟨5, .data⟩, ⟨10, .chain⟩, ⟨0, .phase⟩, ⟨1, .phase⟩, ⟨2, .phase⟩, ⟨3, .phase⟩, ⟨4, .phase⟩, ⟨5, .phase⟩, ⟨6, .phase⟩, ⟨7, .phase⟩, ⟨8, .phase⟩, ⟨9, .phase⟩, { on := 10, ground := Ground.textOnly Departure.lateStoresUnsure }, { on := 11, ground := Ground.textOnly Departure.lateStoresUnsure }], none⟩) rfl (fun K hK => ?_) (AllReadyH.nil))
              · obtain ⟨c0, c1, c2, c3, c4, fz⟩ := FW.out.facts
                have f2 := fz 2
                have f3 := fz 3
                clear fz
                go_simp
                clear c0 c1 c2 c3 c4 f2 f3
                rw [MXE.out]
                have fw := heap_setCell_same _ g 2 _ _ (.int .i64 (nmn l m)) FW.out
                have bg := BG.out.trans ((Below.refl g y35).setCell (p := ⟨g, 2, none⟩) (Nat.le_refl _) (.int .i64 (nmn l m)))
                generalize y35.setCell ⟨g, 2, none⟩ (.int .i64 (nmn l m)) = y38 at *
                have FW := Lib.hid (show FmC y38 g l h (nmn l m) x true from fw)
                have BG := Lib.hid bg
                clear fw bg hHeld
                refine hK.out _ _ (FA.out _ _ _ FW.out) (fun hHeld => ?_)
                clear hK K
                try simp only [Act.put, List.setIfInBounds_toArray, List.set_cons_zero, List.set_cons_succ]
                refine wpAnyH_take (i := 14) (oi := ⟨some 18, .fieldAddr 58 (.tmp 3) 3, 0, "ref.go:74", #[⟨0, .phase⟩, ⟨1, .phase⟩, ⟨2, .phase⟩, ⟨3, .phase⟩, ⟨4, .phase⟩, ⟨5, .phase⟩, ⟨6, .phase⟩, ⟨7, .phase⟩, ⟨8, .phase⟩, ⟨9, .phase⟩, ⟨10, .phase⟩, ⟨11, .phase⟩, ⟨12, .phase⟩, ⟨13, .phase⟩], none⟩) (v := ?vn36k14) rfl (by kernel_rfl) (by kernel_rfl) (by kernel_rfl) (fun _ _ _ h => h) (Or.inl ⟨by kernel_rfl, ?yn36k14⟩) (by assumption) ?rn36k14
                case yn36k14 => intro w hSw; (try dsimp only at hSw); go_simp; try with_reducible rfl
                try simp only [Act.put, List.setIfInBounds_toArray, List.set_cons_zero, List.set_cons_succ]
                refine wpAnyH_ready (rs := [15]) (by kernel_rfl) (by simp) (AllReadyH.cons (o := ⟨none, .store 3 (.tmp 18) (.tmp 16), 0, "ref.go:74", #[⟨14, .data⟩, ⟨11, .data⟩, ⟨13, .chain⟩, ⟨0, .phase⟩, ⟨1, .phase⟩, ⟨2, .phase⟩, ⟨3, .phase⟩, ⟨4, .phase⟩, ⟨5, .phase⟩, ⟨6, .phase⟩, ⟨7, .phase⟩, ⟨8, .phase⟩, ⟨9, .phase⟩, ⟨10, .phase⟩, ⟨11, .phase⟩, ⟨12, .phase⟩, ⟨13, .phase⟩], none⟩) rfl (fun K hK => ?_) (AllReadyH.nil))
                · obtain ⟨c0, c1, c2, c3, c4, fz⟩ := FW.out.facts
                  have f2 := fz 2
                  have f3 := fz 3
                  clear fz
                  go_simp
                  clear c0 c1 c2 c3 c4 f2 f3
                  rw [MNE.out]
                  have fw := heap_setCell_same _ g 3 _ _ (.int .i64 (nmx h x)) FW.out
                  have bg := BG.out.trans ((Below.refl g y38).setCell (p := ⟨g, 3, none⟩) (Nat.le_refl _) (.int .i64 (nmx h x)))
                  generalize y38.setCell ⟨g, 3, none⟩ (.int .i64 (nmx h x)) = y39 at *
                  have FW := Lib.hid (show FmC y39 g l h (nmn l m) (nmx h x) true from fw)
                  have BG := Lib.hid bg
                  clear fw bg hHeld
                  refine hK.out _ _ (FA.out _ _ _ FW.out) (fun hHeld => ?_)
                  clear hK K
                  try simp only [Act.put, List.setIfInBounds_toArray, List.set_cons_zero, List.set_cons_succ]
                  refine wpAnyH_done (by kernel_rfl) ?_ _
                  go_wp2_with fail
                  go_meet
                  exact ⟨FW.out, BG.out⟩
          · obtain ⟨c0, c1, c2, c3, c4, fz⟩ := FW.out.facts
            have f2 := fz 2
            have f3 := fz 3
            clear fz
            go_simp
            clear c0 c1 c2 c3 c4 f2 f3
            clear hHeld
            refine hK.out _ _ (FA.out _ _ _ FW.out) (fun hHeld => ?_)
            clear hK K
            try simp only [Act.put, List.setIfInBounds_toArray, List.set_cons_zero, List.set_cons_succ]
            refine wpAnyH_take (i := 11) (oi := ⟨some 16, .call { callee := Callee.builtin Builtin.min, args := #[.tmp 12, .tmp 15], argTypes := #[3, 3] }, 3, "ref.go:74", #[⟨7, .data⟩, ⟨10, .data⟩], none⟩) (v := ?vn37k11) rfl (by kernel_rfl) (by kernel_rfl) (by kernel_rfl) (fun _ _ _ h => h) (Or.inl ⟨by kernel_rfl, ?yn37k11⟩) (by assumption) ?rn37k11
            case yn37k11 => intro w hSw; (try dsimp only at hSw); go_simp; try with_reducible rfl
            try simp only [Act.put, List.setIfInBounds_toArray, List.set_cons_zero, List.set_cons_succ]
            refine wpAnyH_ready (rs := [1]) (by kernel_rfl) (by simp) (AllReadyH.cons (o := ⟨some 6, .load 3 (.tmp 5), 3, "ref.go:74", #[⟨0, .data⟩], none⟩) rfl (fun K hK => ?_) (AllReadyH.nil))
            · obtain ⟨c0, c1, c2, c3, c4, fz⟩ := FW.out.facts
              have f2 := fz 2
              have f3 := fz 3
              clear fz
              go_simp
              clear c0 c1 c2 c3 c4 f2 f3
              clear hHeld
              refine hK.out _ _ (FA.out _ _ _ FW.out) (fun hHeld => ?_)
              clear hK K
              try simp only [Act.put, List.setIfInBounds_toArray, List.set_cons_zero, List.set_cons_succ]
              refine wpAnyH_take (i := 5) (oi := ⟨some 10, .call { callee := Callee.builtin Builtin.max, args := #[.tmp 6, .tmp 9], argTypes := #[3, 3] }, 3, "ref.go:74", #[⟨1, .data⟩, ⟨4, .data⟩], none⟩) (v := ?vn38k5) rfl (by kernel_rfl) (by kernel_rfl) (by kernel_rfl) (fun _ _ _ h => h) (Or.inl ⟨by kernel_rfl, ?yn38k5⟩) (by assumption) ?rn38k5
              case yn38k5 => intro w hSw; (try dsimp only at hSw); go_simp; try with_reducible rfl
              try simp only [Act.put, List.setIfInBounds_toArray, List.set_cons_zero, List.set_cons_succ]
              refine wpAnyH_take (i := 12) (oi := ⟨some 17, .fieldAddr 58 (.tmp 3) 2, 0, "ref.go:74", #[⟨0, .phase⟩, ⟨1, .phase⟩, ⟨2, .phase⟩, ⟨3, .phase⟩, ⟨4, .phase⟩, ⟨5, .phase⟩, ⟨6, .phase⟩, ⟨7, .phase⟩, ⟨8, .phase⟩, ⟨9, .phase⟩, { on := 10, ground := Ground.textOnly Departure.lateStoresUnsure }, { on := 11, ground := Ground.textOnly Departure.lateStoresUnsure }], none⟩) (v := ?vn39k12) rfl (by kernel_rfl) (by kernel_rfl) (by kernel_rfl) (fun _ _ _ h => h) (Or.inl ⟨by kernel_rfl, ?yn39k12⟩) (by assumption) ?rn39k12
              case yn39k12 => intro w hSw; (try dsimp only at hSw); go_simp; try with_reducible rfl
              try simp only [Act.put, List.setIfInBounds_toArray, List.set_cons_zero, List.set_cons_succ]
              have BG := Lib.hid (BV.out.mono (Nat.le_succ g))
              refine wpAnyH_ready (rs := [13]) (by kernel_rfl) (by simp) (AllReadyH.cons (o := ⟨none, .store 3 (.tmp 17) (.tmp 10), 0, "ref.go:74", #[⟨12, .data⟩, ⟨5, .data⟩, ⟨10, .chain⟩, ⟨0, .phase⟩, ⟨1, .phase⟩, ⟨2, .phase⟩, ⟨3, .phase⟩, ⟨4, .phase⟩, ⟨5, .phase⟩, ⟨6, .phase⟩, ⟨7, .phase⟩, ⟨8, .phase⟩, ⟨9, .phase⟩, { on := 10, ground := Ground.textOnly Departure.lateStoresUnsure }, { on := 11, ground := Ground.textOnly Departure.lateStoresUnsure }], none⟩) rfl (fun K hK => ?_) (AllReadyH.nil))
              · obtain ⟨c0, c1, c2, c3, c4, fz⟩ := FW.out.facts
                have f2 := fz 2
                have f3 := fz 3
                clear fz
                go_simp
                clear c0 c1 c2 c3 c4 f2 f3
                rw [MXE.out]
                have fw := heap_setCell_same _ g 2 _ _ (.int .i64 (nmn l m)) FW.out
                have bg := BG.out.trans ((Below.refl g y35).setCell (p := ⟨g, 2, none⟩) (Nat.le_refl _) (.int .i64 (nmn l m)))
                generalize y35.setCell ⟨g, 2, none⟩ (.int .i64 (nmn l m)) = y42 at *
                have FW := Lib.hid (show FmC y42 g l h (nmn l m) x true from fw)
                have BG := Lib.hid bg
                clear fw bg hHeld
                refine hK.out _ _ (FA.out _ _ _ FW.out) (fun hHeld => ?_)
                clear hK K
                try simp only [Act.put, List.setIfInBounds_toArray, List.set_cons_zero, List.set_cons_succ]
                refine wpAnyH_take (i := 14) (oi := ⟨some 18, .fieldAddr 58 (.tmp 3) 3, 0, "ref.go:74", #[⟨0, .phase⟩, ⟨1, .phase⟩, ⟨2, .phase⟩, ⟨3, .phase⟩, ⟨4, .phase⟩, ⟨5, .phase⟩, ⟨6, .phase⟩, ⟨7, .phase⟩, ⟨8, .phase⟩, ⟨9, .phase⟩, ⟨10, .phase⟩, ⟨11, .phase⟩, ⟨12, .phase⟩, ⟨13, .phase⟩], none⟩) (v := ?vn40k14) rfl (by kernel_rfl) (by kernel_rfl) (by kernel_rfl) (fun _ _ _ h => h) (Or.inl ⟨by kernel_rfl, ?yn40k14⟩) (by assumption) ?rn40k14
                case yn40k14 => intro w hSw; (try dsimp only at hSw); go_simp; try with_reducible rfl
                try simp only [Act.put, List.setIfInBounds_toArray, List.set_cons_zero, List.set_cons_succ]
                refine wpAnyH_ready (rs := [15]) (by kernel_rfl) (by simp) (AllReadyH.cons (o := ⟨none, .store 3 (.tmp 18) (.tmp 16), 0, "ref.go:74", #[⟨14, .data⟩, ⟨11, .data⟩, ⟨13, .chain⟩, ⟨0, .phase⟩, ⟨1, .phase⟩, ⟨2, .phase⟩, ⟨3, .phase⟩, ⟨4, .phase⟩, ⟨5, .phase⟩, ⟨6, .phase⟩, ⟨7, .phase⟩, ⟨8, .phase⟩, ⟨9, .phase⟩, ⟨10, .phase⟩, ⟨11, .phase⟩, ⟨12, .phase⟩, ⟨13, .phase⟩], none⟩) rfl (fun K hK => ?_) (AllReadyH.nil))
                · obtain ⟨c0, c1, c2, c3, c4, fz⟩ := FW.out.facts
                  have f2 := fz 2
                  have f3 := fz 3
                  clear fz
                  go_simp
                  clear c0 c1 c2 c3 c4 f2 f3
                  rw [MNE.out]
                  have fw := heap_setCell_same _ g 3 _ _ (.int .i64 (nmx h x)) FW.out
                  have bg := BG.out.trans ((Below.refl g y42).setCell (p := ⟨g, 3, none⟩) (Nat.le_refl _) (.int .i64 (nmx h x)))
                  generalize y42.setCell ⟨g, 3, none⟩ (.int .i64 (nmx h x)) = y43 at *
                  have FW := Lib.hid (show FmC y43 g l h (nmn l m) (nmx h x) true from fw)
                  have BG := Lib.hid bg
                  clear fw bg hHeld
                  refine hK.out _ _ (FA.out _ _ _ FW.out) (fun hHeld => ?_)
                  clear hK K
                  try simp only [Act.put, List.setIfInBounds_toArray, List.set_cons_zero, List.set_cons_succ]
                  refine wpAnyH_done (by kernel_rfl) ?_ _
                  go_wp2_with fail
                  go_meet
                  exact ⟨FW.out, BG.out⟩
      · obtain ⟨c0, c1, c2, c3, c4, fz⟩ := FW.out.facts
        have f2 := fz 2
        have f3 := fz 3
        clear fz
        go_simp
        clear c0 c1 c2 c3 c4 f2 f3
        clear hHeld
        refine hK.out _ _ (FA.out _ _ _ FW.out) (fun hHeld => ?_)
        clear hK K
        try simp only [Act.put, List.setIfInBounds_toArray, List.set_cons_zero, List.set_cons_succ]
        refine wpAnyH_ready (rs := [1, 4]) (by kernel_rfl) (by simp) (AllReadyH.cons (o := ⟨some 6, .load 3 (.tmp 5), 3, "ref.go:74", #[⟨0, .data⟩], none⟩) rfl (fun K hK => ?_) (AllReadyH.cons (o := ⟨some 9, .call { callee := Callee.value (.func 40), args := #[.tmp 8], argTypes := #[56] }, 3, "ref.go:74", #[⟨3, .data⟩], none⟩) rfl (fun K hK => ?_) (AllReadyH.nil)))
        · obtain ⟨c0, c1, c2, c3, c4, fz⟩ := FW.out.facts
          have f2 := fz 2
          have f3 := fz 3
          clear fz
          go_simp
          clear c0 c1 c2 c3 c4 f2 f3
          clear hHeld
          refine hK.out _ _ (FA.out _ _ _ FW.out) (fun hHeld => ?_)
          clear hK K
          try simp only [Act.put, List.setIfInBounds_toArray, List.set_cons_zero, List.set_cons_succ]
          refine wpAnyH_ready (rs := [4]) (by kernel_rfl) (by simp) (AllReadyH.cons (o := ⟨some 9, .call { callee := Callee.value (.func 40), args := #[.tmp 8], argTypes := #[56] }, 3, "ref.go:74", #[⟨3, .data⟩], none⟩) rfl (fun K hK => ?_) (AllReadyH.nil))
          · go_simp
            refine (SL.out _).mono ?_
            rintro e y46 ⟨rfl, hb⟩
            clear hHeld
            have FW := Lib.hid (FW.out.at (hb.block g (by omega)))
            have BV := Lib.hid (BV.out.trans (hb.mono hv2))
            have hv2 : g + 1 ≤ y46.heap.size := Nat.le_trans hv2 hb.size
            clear hb
            refine hK.out _ _ (FA.out _ _ _ FW.out) (fun hHeld => ?_)
            clear hK K
            try simp only [Act.put, List.setIfInBounds_toArray, List.set_cons_zero, List.set_cons_succ]
            refine wpAnyH_take (i := 5) (oi := ⟨some 10, .call { callee := Callee.builtin Builtin.max, args := #[.tmp 6, .tmp 9], argTypes := #[3, 3] }, 3, "ref.go:74", #[⟨1, .data⟩, ⟨4, .data⟩], none⟩) (v := ?vn41k5) rfl (by kernel_rfl) (by kernel_rfl) (by kernel_rfl) (fun _ _ _ h => h) (Or.inl ⟨by kernel_rfl, ?yn41k5⟩) (by assumption) ?rn41k5
            case yn41k5 => intro w hSw; (try dsimp only at hSw); go_simp; try with_reducible rfl
            try simp only [Act.put, List.setIfInBounds_toArray, List.set_cons_zero, List.set_cons_succ]
            refine wpAnyH_take (i := 12) (oi := ⟨some 17, .fieldAddr 58 (.tmp 3) 2, 0, "ref.go:74", #[⟨0, .phase⟩, ⟨1, .phase⟩, ⟨2, .phase⟩, ⟨3, .phase⟩, ⟨4, .phase⟩, ⟨5, .phase⟩, ⟨6, .phase⟩, ⟨7, .phase⟩, ⟨8, .phase⟩, ⟨9, .phase⟩, { on := 10, ground := Ground.textOnly Departure.lateStoresUnsure }, { on := 11, ground := Ground.textOnly Departure.lateStoresUnsure }], none⟩) (v := ?vn42k12) rfl (by kernel_rfl) (by kernel_rfl) (by kernel_rfl) (fun _ _ _ h => h) (Or.inl ⟨by kernel_rfl, ?yn42k12⟩) (by assumption) ?rn42k12
            case yn42k12 => intro w hSw; (try dsimp only at hSw); go_simp; try with_reducible rfl
            try simp only [Act.put, List.setIfInBounds_toArray, List.set_cons_zero, List.set_cons_succ]
            refine wpAnyH_ready (rs := [10]) (by kernel_rfl) (by simp) (AllReadyH.cons (o := ⟨some 15, .call { callee := Callee.value (.func 40), args := #[.tmp 14], argTypes := #[56] }, 3, "ref.go:74", #[⟨9, .data⟩, ⟨4, .chain⟩], none⟩) rfl (fun K hK => ?_) (AllReadyH.nil))
            · go_simp
              refine (SH.out _).mono ?_
              rintro e y47 ⟨rfl, hb⟩
              clear hHeld
              have FW := Lib.hid (FW.out.at (hb.block g (by omega)))
              have BV := Lib.hid (BV.out.trans (hb.mono hv2))
              have hv2 : g + 1 ≤ y47.heap.size := Nat.le_trans hv2 hb.size
              clear hb
              refine hK.out _ _ (FA.out _ _ _ FW.out) (fun hHeld => ?_)
              clear hK K
              try simp only [Act.put, List.setIfInBounds_toArray, List.set_cons_zero, List.set_cons_succ]
              refine wpAnyH_take (i := 11) (oi := ⟨some 16, .call { callee := Callee.builtin Builtin.min, args := #[.tmp 12, .tmp 15], argTypes := #[3, 3] }, 3, "ref.go:74", #[⟨7, .data⟩, ⟨10, .data⟩], none⟩) (v := ?vn43k11) rfl (by kernel_rfl) (by kernel_rfl) (by kernel_rfl) (fun _ _ _ h => h) (Or.inl ⟨by kernel_rfl, ?yn43k11⟩) (by assumption) ?rn43k11
              case yn43k11 => intro w hSw; (try dsimp only at hSw); go_simp; try with_reducible rfl
              try simp only [Act.put, List.setIfInBounds_toArray, List.set_cons_zero, List.set_cons_succ]
              have BG := Lib.hid (BV.out.mono (Nat.le_succ g))
              refine wpAnyH_ready (rs := [13]) (by kernel_rfl) (by simp) (AllReadyH.cons (o := ⟨none, .store 3 (.tmp 17) (.tmp 10), 0, "ref.go:74", #[⟨12, .data⟩, ⟨5, .data⟩, ⟨10, .chain⟩, ⟨0, .phase⟩, ⟨1, .phase⟩, ⟨2, .phase⟩, ⟨3, .phase⟩, ⟨4, .phase⟩, ⟨5, .phase⟩, ⟨6, .phase⟩, ⟨7, .phase⟩, ⟨8, .phase⟩, ⟨9, .phase⟩, { on := 10, ground := Ground.textOnly Departure.lateStoresUnsure }, { on := 11, ground := Ground.textOnly Departure.lateStoresUnsure }], none⟩) rfl (fun K hK => ?_) (AllReadyH.nil))
              · obtain ⟨c0, c1, c2, c3, c4, fz⟩ := FW.out.facts
                have f2 := fz 2
                have f3 := fz 3
                clear fz
                go_simp
                clear c0 c1 c2 c3 c4 f2 f3
                rw [MXE.out]
                have fw := heap_setCell_same _ g 2 _ _ (.int .i64 (nmn l m)) FW.out
                have bg := BG.out.trans ((Below.refl g y47).setCell (p := ⟨g, 2, none⟩) (Nat.le_refl _) (.int .i64 (nmn l m)))
                generalize y47.setCell ⟨g, 2, none⟩ (.int .i64 (nmn l m)) = y48 at *
                have FW := Lib.hid (show FmC y48 g l h (nmn l m) x true from fw)
                have BG := Lib.hid bg
                clear fw bg hHeld
                refine hK.out _ _ (FA.out _ _ _ FW.out) (fun hHeld => ?_)
                clear hK K
                try simp only [Act.put, List.setIfInBounds_toArray, List.set_cons_zero, List.set_cons_succ]
                refine wpAnyH_take (i := 14) (oi := ⟨some 18, .fieldAddr 58 (.tmp 3) 3, 0, "ref.go:74", #[⟨0, .phase⟩, ⟨1, .phase⟩, ⟨2, .phase⟩, ⟨3, .phase⟩, ⟨4, .phase⟩, ⟨5, .phase⟩, ⟨6, .phase⟩, ⟨7, .phase⟩, ⟨8, .phase⟩, ⟨9, .phase⟩, ⟨10, .phase⟩, ⟨11, .phase⟩, ⟨12, .phase⟩, ⟨13, .phase⟩], none⟩) (v := ?vn44k14) rfl (by kernel_rfl) (by kernel_rfl) (by kernel_rfl) (fun _ _ _ h => h) (Or.inl ⟨by kernel_rfl, ?yn44k14⟩) (by assumption) ?rn44k14
                case yn44k14 => intro w hSw; (try dsimp only at hSw); go_simp; try with_reducible rfl
                try simp only [Act.put, List.setIfInBounds_toArray, List.set_cons_zero, List.set_cons_succ]
                refine wpAnyH_ready (rs := [15]) (by kernel_rfl) (by simp) (AllReadyH.cons (o := ⟨none, .store 3 (.tmp 18) (.tmp 16), 0, "ref.go:74", #[⟨14, .data⟩, ⟨11, .data⟩, ⟨13, .chain⟩, ⟨0, .phase⟩, ⟨1, .phase⟩, ⟨2, .phase⟩, ⟨3, .phase⟩, ⟨4, .phase⟩, ⟨5, .phase⟩, ⟨6, .phase⟩, ⟨7, .phase⟩, ⟨8, .phase⟩, ⟨9, .phase⟩, ⟨10, .phase⟩, ⟨11, .phase⟩, ⟨12, .phase⟩, ⟨13, .phase⟩], none⟩) rfl (fun K hK => ?_) (AllReadyH.nil))
                · obtain ⟨c0, c1, c2, c3, c4, fz⟩ := FW.out.facts
                  have f2 := fz 2
                  have f3 := fz 3
                  clear fz
                  go_simp
                  clear c0 c1 c2 c3 c4 f2 f3
                  rw [MNE.out]
                  have fw := heap_setCell_same _ g 3 _ _ (.int .i64 (nmx h x)) FW.out
                  have bg := BG.out.trans ((Below.refl g y48).setCell (p := ⟨g, 3, none⟩) (Nat.le_refl _) (.int .i64 (nmx h x)))
                  generalize y48.setCell ⟨g, 3, none⟩ (.int .i64 (nmx h x)) = y49 at *
                  have FW := Lib.hid (show FmC y49 g l h (nmn l m) (nmx h x) true from fw)
                  have BG := Lib.hid bg
                  clear fw bg hHeld
                  refine hK.out _ _ (FA.out _ _ _ FW.out) (fun hHeld => ?_)
                  clear hK K
                  try simp only [Act.put, List.setIfInBounds_toArray, List.set_cons_zero, List.set_cons_succ]
                  refine wpAnyH_done (by kernel_rfl) ?_ _
                  go_wp2_with fail
                  go_meet
                  exact ⟨FW.out, BG.out⟩
        · go_simp
          refine (SL.out _).mono ?_
          rintro e y50 ⟨rfl, hb⟩
          clear hHeld
          have FW := Lib.hid (FW.out.at (hb.block g (by omega)))
          have BV := Lib.hid (BV.out.trans (hb.mono hv2))
          have hv2 : g + 1 ≤ y50.heap.size := Nat.le_trans hv2 hb.size
          clear hb
          refine hK.out _ _ (FA.out _ _ _ FW.out) (fun hHeld => ?_)
          clear hK K
          try simp only [Act.put, List.setIfInBounds_toArray, List.set_cons_zero, List.set_cons_succ]
          refine wpAnyH_ready (rs := [1, 10]) (by kernel_rfl) (by simp) (AllReadyH.cons (o := ⟨some 6, .load 3 (.tmp 5), 3, "ref.go:74", #[⟨0, .data⟩], none⟩) rfl (fun K hK => ?_) (AllReadyH.cons (o := ⟨some 15, .call { callee := Callee.value (.func 40), args := #[.tmp 14], argTypes := #[56] }, 3, "ref.go:74", #[⟨9, .data⟩, ⟨4, .chain⟩], none⟩) rfl (fun K hK => ?_) (AllReadyH.nil)))
          · obtain ⟨c0, c1, c2, c3, c4, fz⟩ := FW.out.facts
            have f2 := fz 2
            have f3 := fz 3
            clear fz
            go_simp
            clear c0 c1 c2 c3 c4 f2 f3
            clear hHeld
            refine hK.out _ _ (FA.out _ _ _ FW.out) (fun hHeld => ?_)
            clear hK K
            try simp only [Act.put, List.setIfInBounds_toArray, List.set_cons_zero, List.set_cons_succ]
            refine wpAnyH_take (i := 5) (oi := ⟨some 10, .call { callee := Callee.builtin Builtin.max, args := #[.tmp 6, .tmp 9], argTypes := #[3, 3] }, 3, "ref.go:74", #[⟨1, .data⟩, ⟨4, .data⟩], none⟩) (v := ?vn45k5) rfl (by kernel_rfl) (by kernel_rfl) (by kernel_rfl) (fun _ _ _ h => h) (Or.inl ⟨by kernel_rfl, ?yn45k5⟩) (by assumption) ?rn45k5
            case yn45k5 => intro w hSw; (try dsimp only at hSw); go_simp; try with_reducible rfl
            try simp only [Act.put, List.setIfInBounds_toArray, List.set_cons_zero, List.set_cons_succ]
            refine wpAnyH_take (i := 12) (oi := ⟨some 17, .fieldAddr 58 (.tmp 3) 2, 0, "ref.go:74", #[⟨0, .phase⟩, ⟨1, .phase⟩, ⟨2, .phase⟩, ⟨3, .phase⟩, ⟨4, .phase⟩, ⟨5, .phase⟩, ⟨6, .phase⟩, ⟨7, .phase⟩, ⟨8, .phase⟩, ⟨9, .phase⟩, { on := 10, ground := Ground.textOnly Departure.lateStoresUnsure }, { on := 11, ground := Ground.textOnly Departure.lateStoresUnsure }], none⟩) (v := ?vn46k12) rfl (by kernel_rfl) (by kernel_rfl) (by kernel_rfl) (fun _ _ _ h => h) (Or.inl ⟨by kernel_rfl, ?yn46k12⟩) (by assumption) ?rn46k12
            case yn46k12 => intro w hSw; (try dsimp only at hSw); go_simp; try with_reducible rfl
            try simp only [Act.put, List.setIfInBounds_toArray, List.set_cons_zero, List.set_cons_succ]
            refine wpAnyH_ready (rs := [10]) (by kernel_rfl) (by simp) (AllReadyH.cons (o := ⟨some 15, .call { callee := Callee.value (.func 40), args := #[.tmp 14], argTypes := #[56] }, 3, "ref.go:74", #[⟨9, .data⟩, ⟨4, .chain⟩], none⟩) rfl (fun K hK => ?_) (AllReadyH.nil))
            · go_simp
              refine (SH.out _).mono ?_
              rintro e y52 ⟨rfl, hb⟩
              clear hHeld
              have FW := Lib.hid (FW.out.at (hb.block g (by omega)))
              have BV := Lib.hid (BV.out.trans (hb.mono hv2))
              have hv2 : g + 1 ≤ y52.heap.size := Nat.le_trans hv2 hb.size
              clear hb
              refine hK.out _ _ (FA.out _ _ _ FW.out) (fun hHeld => ?_)
              clear hK K
              try simp only [Act.put, List.setIfInBounds_toArray, List.set_cons_zero, List.set_cons_succ]
              refine wpAnyH_take (i := 11) (oi := ⟨some 16, .call { callee := Callee.builtin Builtin.min, args := #[.tmp 12, .tmp 15], argTypes := #[3, 3] }, 3, "ref.go:74", #[⟨7, .data⟩, ⟨10, .data⟩], none⟩) (v := ?vn47k11) rfl (by kernel_rfl) (by kernel_rfl) (by kernel_rfl) (fun _ _ _ h => h) (Or.inl ⟨by kernel_rfl, ?yn47k11⟩) (by assumption) ?rn47k11
              case yn47k11 => intro w hSw; (try dsimp only at hSw); go_simp; try with_reducible rfl
              try simp only [Act.put, List.setIfInBounds_toArray, List.set_cons_zero, List.set_cons_succ]
              have BG := Lib.hid (BV.out.mono (Nat.le_succ g))
              refine wpAnyH_ready (rs := [13]) (by kernel_rfl) (by simp) (AllReadyH.cons (o := ⟨none, .store 3 (.tmp 17) (.tmp 10), 0, "ref.go:74", #[⟨12, .data⟩, ⟨5, .data⟩, ⟨10, .chain⟩, ⟨0, .phase⟩, ⟨1, .phase⟩, ⟨2, .phase⟩, ⟨3, .phase⟩, ⟨4, .phase⟩, ⟨5, .phase⟩, ⟨6, .phase⟩, ⟨7, .phase⟩, ⟨8, .phase⟩, ⟨9, .phase⟩, { on := 10, ground := Ground.textOnly Departure.lateStoresUnsure }, { on := 11, ground := Ground.textOnly Departure.lateStoresUnsure }], none⟩) rfl (fun K hK => ?_) (AllReadyH.nil))
              · obtain ⟨c0, c1, c2, c3, c4, fz⟩ := FW.out.facts
                have f2 := fz 2
                have f3 := fz 3
                clear fz
                go_simp
                clear c0 c1 c2 c3 c4 f2 f3
                rw [MXE.out]
                have fw := heap_setCell_same _ g 2 _ _ (.int .i64 (nmn l m)) FW.out
                have bg := BG.out.trans ((Below.refl g y52).setCell (p := ⟨g, 2, none⟩) (Nat.le_refl _) (.int .i64 (nmn l m)))
                generalize y52.setCell ⟨g, 2, none⟩ (.int .i64 (nmn l m)) = y53 at *
                have FW := Lib.hid (show FmC y53 g l h (nmn l m) x true from fw)
                have BG := Lib.hid bg
                clear fw bg hHeld
                refine hK.out _ _ (FA.out _ _ _ FW.out) (fun hHeld => ?_)
                clear hK K
                try simp only [Act.put, List.setIfInBounds_toArray, List.set_cons_zero, List.set_cons_succ]
                refine wpAnyH_take (i := 14) (oi := ⟨some 18, .fieldAddr 58 (.tmp 3) 3, 0, "ref.go:74", #[⟨0, .phase⟩, ⟨1, .phase⟩, ⟨2, .phase⟩, ⟨3, .phase⟩, ⟨4, .phase⟩, ⟨5, .phase⟩, ⟨6, .phase⟩, ⟨7, .phase⟩, ⟨8, .phase⟩, ⟨9, .phase⟩, ⟨10, .phase⟩, ⟨11, .phase⟩, ⟨12, .phase⟩, ⟨13, .phase⟩], none⟩) (v := ?vn48k14) rfl (by kernel_rfl) (by kernel_rfl) (by kernel_rfl) (fun _ _ _ h => h) (Or.inl ⟨by kernel_rfl, ?yn48k14⟩) (by assumption) ?rn48k14
                case yn48k14 => intro w hSw; (try dsimp only at hSw); go_simp; try with_reducible rfl
                try simp only [Act.put, List.setIfInBounds_toArray, List.set_cons_zero, List.set_cons_succ]
                refine wpAnyH_ready (rs := [15]) (by kernel_rfl) (by simp) (AllReadyH.cons (o := ⟨none, .store 3 (.tmp 18) (.tmp 16), 0, "ref.go:74", #[⟨14, .data⟩, ⟨11, .data⟩, ⟨13, .chain⟩, ⟨0, .phase⟩, ⟨1, .phase⟩, ⟨2, .phase⟩, ⟨3, .phase⟩, ⟨4, .phase⟩, ⟨5, .phase⟩, ⟨6, .phase⟩, ⟨7, .phase⟩, ⟨8, .phase⟩, ⟨9, .phase⟩, ⟨10, .phase⟩, ⟨11, .phase⟩, ⟨12, .phase⟩, ⟨13, .phase⟩], none⟩) rfl (fun K hK => ?_) (AllReadyH.nil))
                · obtain ⟨c0, c1, c2, c3, c4, fz⟩ := FW.out.facts
                  have f2 := fz 2
                  have f3 := fz 3
                  clear fz
                  go_simp
                  clear c0 c1 c2 c3 c4 f2 f3
                  rw [MNE.out]
                  have fw := heap_setCell_same _ g 3 _ _ (.int .i64 (nmx h x)) FW.out
                  have bg := BG.out.trans ((Below.refl g y53).setCell (p := ⟨g, 3, none⟩) (Nat.le_refl _) (.int .i64 (nmx h x)))
                  generalize y53.setCell ⟨g, 3, none⟩ (.int .i64 (nmx h x)) = y54 at *
                  have FW := Lib.hid (show FmC y54 g l h (nmn l m) (nmx h x) true from fw)
                  have BG := Lib.hid bg
                  clear fw bg hHeld
                  refine hK.out _ _ (FA.out _ _ _ FW.out) (fun hHeld => ?_)
                  clear hK K
                  try simp only [Act.put, List.setIfInBounds_toArray, List.set_cons_zero, List.set_cons_succ]
                  refine wpAnyH_done (by kernel_rfl) ?_ _
                  go_wp2_with fail
                  go_meet
                  exact ⟨FW.out, BG.out⟩
          · go_simp
            refine (SH.out _).mono ?_
            rintro e y55 ⟨rfl, hb⟩
            clear hHeld
            have FW := Lib.hid (FW.out.at (hb.block g (by omega)))
            have BV := Lib.hid (BV.out.trans (hb.mono hv2))
            have hv2 : g + 1 ≤ y55.heap.size := Nat.le_trans hv2 hb.size
            clear hb
            refine hK.out _ _ (FA.out _ _ _ FW.out) (fun hHeld => ?_)
            clear hK K
            try simp only [Act.put, List.setIfInBounds_toArray, List.set_cons_zero, List.set_cons_succ]
            refine wpAnyH_take (i := 11) (oi := ⟨some 16, .call { callee := Callee.builtin Builtin.min, args := #[.tmp 12, .tmp 15], argTypes := #[3, 3] }, 3, "ref.go:74", #[⟨7, .data⟩, ⟨10, .data⟩], none⟩) (v := ?vn49k11) rfl (by kernel_rfl) (by kernel_rfl) (by kernel_rfl) (fun _ _ _ h => h) (Or.inl ⟨by kernel_rfl, ?yn49k11⟩) (by assumption) ?rn49k11
            case yn49k11 => intro w hSw; (try dsimp only at hSw); go_simp; try with_reducible rfl
            try simp only [Act.put, List.setIfInBounds_toArray, List.set_cons_zero, List.set_cons_succ]
            refine wpAnyH_ready (rs := [1]) (by kernel_rfl) (by simp) (AllReadyH.cons (o := ⟨some 6, .load 3 (.tmp 5), 3, "ref.go:74", #[⟨0, .data⟩], none⟩) rfl (fun K hK => ?_) (AllReadyH.nil))
            · obtain ⟨c0, c1, c2, c3, c4, fz⟩ := FW.out.facts
              have f2 := fz 2
              have f3 := fz 3
              clear fz
              go_simp
              clear c0 c1 c2 c3 c4 f2 f3
              clear hHeld
              refine hK.out _ _ (FA.out _ _ _ FW.out) (fun hHeld => ?_)
              clear hK K
              try simp only [Act.put, List.setIfInBounds_toArray, List.set_cons_zero, List.set_cons_succ]
              refine wpAnyH_take (i := 5) (oi := ⟨some 10, .call { callee := Callee.builtin Builtin.max, args := #[.tmp 6, .tmp 9], argTypes := #[3, 3] }, 3, "ref.go:74", #[⟨1, .data⟩, ⟨4, .data⟩], none⟩) (v := ?vn50k5) rfl (by kernel_rfl) (by kernel_rfl) (by kernel_rfl) (fun _ _ _ h => h) (Or.inl ⟨by kernel_rfl, ?yn50k5⟩) (by assumption) ?rn50k5
              case yn50k5 => intro w hSw; (try dsimp only at hSw); go_simp; try with_reducible rfl
              try simp only [Act.put, List.setIfInBounds_toArray, List.set_cons_zero, List.set_cons_succ]
              refine wpAnyH_take (i := 12) (oi := ⟨some 17, .fieldAddr 58 (.tmp 3) 2, 0, "ref.go:74", #[⟨0, .phase⟩, ⟨1, .phase⟩, ⟨2, .phase⟩, ⟨3, .phase⟩, ⟨4, .phase⟩, ⟨5, .phase⟩, ⟨6, .phase⟩, ⟨7, .phase⟩, ⟨8, .phase⟩, ⟨9, .phase⟩, { on := 10, ground := Ground.textOnly Departure.lateStoresUnsure }, { on := 11, ground := Ground.textOnly Departure.lateStoresUnsure }], none⟩) (v := ?vn51k12) rfl (by kernel_rfl) (by kernel_rfl) (by kernel_rfl) (fun _ _ _ h => h) (Or.inl ⟨by kernel_rfl, ?yn51k12⟩) (by assumption) ?rn51k12
              case yn51k12 => intro w hSw; (try dsimp only at hSw); go_simp; try with_reducible rfl
              try simp only [Act.put, List.setIfInBounds_toArray, List.set_cons_zero, List.set_cons_succ]
              have BG := Lib.hid (BV.out.mono (Nat.le_succ g))
              refine wpAnyH_ready (rs := [13]) (by kernel_rfl) (by simp) (AllReadyH.cons (o := ⟨none, .store 3 (.tmp 17) (.tmp 10), 0, "ref.go:74", #[⟨12, .data⟩, ⟨5, .data⟩, ⟨10, .chain⟩, ⟨0, .phase⟩, ⟨1, .phase⟩, ⟨2, .phase⟩, ⟨3, .phase⟩, ⟨4, .phase⟩, ⟨5, .phase⟩, ⟨6, .phase⟩, ⟨7, .phase⟩, ⟨8, .phase⟩, ⟨9, .phase⟩, { on := 10, ground := Ground.textOnly Departure.lateStoresUnsure }, { on := 11, ground := Ground.textOnly Departure.lateStoresUnsure }], none⟩) rfl (fun K hK => ?_) (AllReadyH.nil))
              · obtain ⟨c0, c1, c2, c3, c4, fz⟩ := FW.out.facts
                have f2 := fz 2
                have f3 := fz 3
                clear fz
                go_simp
                clear c0 c1 c2 c3 c4 f2 f3
                rw [MXE.out]
                have fw := heap_setCell_same _ g 2 _ _ (.int .i64 (nmn l m)) FW.out
                have bg := BG.out.trans ((Below.refl g y55).setCell (p := ⟨g, 2, none⟩) (Nat.le_refl _) (.int .i64 (nmn l m)))
                generalize y55.setCell ⟨g, 2, none⟩ (.int .i64 (nmn l m)) = y57 at *
                have FW := Lib.hid (show FmC y57 g l h (nmn l m) x true from fw)
                have BG := Lib.hid bg
                clear fw bg hHeld
                refine hK.out _ _ (FA.out _ _ _ FW.out) (fun hHeld => ?_)
                clear hK K
                try simp only [Act.put, List.setIfInBounds_toArray, List.set_cons_zero, List.set_cons_succ]
                refine wpAnyH_take (i := 14) (oi := ⟨some 18, .fieldAddr 58 (.tmp 3) 3, 0, "ref.go:74", #[⟨0, .phase⟩, ⟨1, .phase⟩, ⟨2, .phase⟩, ⟨3, .phase⟩, ⟨4, .phase⟩, ⟨5, .phase⟩, ⟨6, .phase⟩, ⟨7, .phase⟩, ⟨8, .phase⟩, ⟨9, .phase⟩, ⟨10, .phase⟩, ⟨11, .phase⟩, ⟨12, .phase⟩, ⟨13, .phase⟩], none⟩) (v := ?vn52k14) rfl (by kernel_rfl) (by kernel_rfl) (by kernel_rfl) (fun _ _ _ h => h) (Or.inl ⟨by kernel_rfl, ?yn52k14⟩) (by assumption) ?rn52k14
                case yn52k14 => intro w hSw; (try dsimp only at hSw); go_simp; try with_reducible rfl
                try simp only [Act.put, List.setIfInBounds_toArray, List.set_cons_zero, List.set_cons_succ]
                refine wpAnyH_ready (rs := [15]) (by kernel_rfl) (by simp) (AllReadyH.cons (o := ⟨none, .store 3 (.tmp 18) (.tmp 16), 0, "ref.go:74", #[⟨14, .data⟩, ⟨11, .data⟩, ⟨13, .chain⟩, ⟨0, .phase⟩, ⟨1, .phase⟩, ⟨2, .phase⟩, ⟨3, .phase⟩, ⟨4, .phase⟩, ⟨5, .phase⟩, ⟨6, .phase⟩, ⟨7, .phase⟩, ⟨8, .phase⟩, ⟨9, .phase⟩, ⟨10, .phase⟩, ⟨11, .phase⟩, ⟨12, .phase⟩, ⟨13, .phase⟩], none⟩) rfl (fun K hK => ?_) (AllReadyH.nil))
                · obtain ⟨c0, c1, c2, c3, c4, fz⟩ := FW.out.facts
                  have f2 := fz 2
                  have f3 := fz 3
                  clear fz
                  go_simp
                  clear c0 c1 c2 c3 c4 f2 f3
                  rw [MNE.out]
                  have fw := heap_setCell_same _ g 3 _ _ (.int .i64 (nmx h x)) FW.out
                  have bg := BG.out.trans ((Below.refl g y57).setCell (p := ⟨g, 3, none⟩) (Nat.le_refl _) (.int .i64 (nmx h x)))
                  generalize y57.setCell ⟨g, 3, none⟩ (.int .i64 (nmx h x)) = y58 at *
                  have FW := Lib.hid (show FmC y58 g l h (nmn l m) (nmx h x) true from fw)
                  have BG := Lib.hid bg
                  clear fw bg hHeld
                  refine hK.out _ _ (FA.out _ _ _ FW.out) (fun hHeld => ?_)
                  clear hK K
                  try simp only [Act.put, List.setIfInBounds_toArray, List.set_cons_zero, List.set_cons_succ]
                  refine wpAnyH_done (by kernel_rfl) ?_ _
                  go_wp2_with fail
                  go_meet
                  exact ⟨FW.out, BG.out⟩
    case rest =>
      obtain ⟨fc, bc⟩ := hcut
      have FC := Lib.hid fc
      have BC := Lib.hid bc
      clear fc bc FA V0
      generalize hM : nmn l m = M at *
      generalize hX : nmx h x = X at *
      obtain ⟨z0, z1, z2, z3, z4, zf⟩ := FmC.zero (show zeroC wc (w.heap.size + 1) from ((BC.out.block _ (by omega)).trans (VB.out.block _ (by omega))).trans ZC.out)
      obtain ⟨c0, c1, c2, c3, c4, fz⟩ := FC.out.facts
      go_wp2_with fail
      clear c0 c1 c2 c3 c4 fz z0 z1 z2 z3 z4 zf
      have pz := FmC.put (show wc.heap[w.heap.size + 1]? = some (.cells #[.int .u64 0, .int .u64 0, .int .i64 0, .int .i64 0, .bool false] 58 (0, 0)) from ((BC.out.block _ (by omega)).trans (VB.out.block _ (by omega))).trans ZC.out) 0 0 0 0 true
      refine bodyPost_ret (v := .agg #[.int .u64 0, .int .u64 0, .int .i64 0, .int .i64 0, .bool true]) (results_cell_row rfl _ _ (w.heap.size + 1) 58 _ (0, 0) _ rfl pz.1 Tryd.underlying58 rfl (by kernel_rfl)) rfl ?_
      exact ⟨rfl, (BW.out.trans ((VB.out.mono (by omega)).trans (BC.out.mono (by omega)))).trans (pz.2.1.mono (by omega))⟩
end Go.Proofs.YthakhdbakmlooaaDoor
