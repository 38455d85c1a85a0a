/-
  Two rows of bounds compared.
-/
import Derived.Test.YthakhdbakmlooaaDoorKbH
import Derived.Maps.AppendAt
import Derived.Lib.SliceRun
import Derived.Deep.MidRow
namespace Go.Proofs.YthakhdbakmlooaaDoor
set_option linter.unusedSimpArgs false
open Go Go.RowKit Go.Shelf Go.Ev

/-- n bounds can be read in a row -/
def BCells (w : World) (g n : Nat) (F : Nat → BdV) : Prop := g < w.heap.size ∧ ∀ i, i < n → ∀ j, j < 4 → w.cell? ⟨g, i * 4 + j, none⟩ = some (bdCell (F i) j)
theorem BRow.cells {w : World} {g n : Nat} {F : Nat → BdV} (h : BRow w g n F) : BCells w g n F := ⟨World.rowIs.lt h, fun _ hi j hj => h.cell hi j hj⟩
theorem BCells.at {w w' : World} {g n : Nat} {F : Nat → BdV} (h : BCells w g n F) (e : w'.heap[g]? = w.heap[g]?) (hs : w.heap.size ≤ w'.heap.size) : BCells w' g n F :=
  ⟨Nat.lt_of_lt_of_le h.1 hs, fun i hi j hj => by rw [← h.2 i hi j hj]; simp only [World.cell?, e]⟩
/-- the first n of two rows are the same -/
def sameB (F G : Nat → BdV) (n : Nat) : Prop := ∀ i, i < n → F i = G i
set_option maxRecDepth 100000 in
set_option maxHeartbeats 8000000 in
theorem equalB_any {g h n cg ch : Nat} {F G : Nat → BdV} (w : World) (hn : n ≤ 1000000) (hF : BCells w g n F) (hG : BCells w h n G) :
    Calls Tryd.prog 83 #[.slice (some ⟨g, 0, none⟩) n cg, .slice (some ⟨h, 0, none⟩) n ch] w fun e w' => (∃ b : Bool, e = .returned (.bool b) ∧ (b = true ↔ sameB F G n)) ∧ Below w.heap.size w w' := by
  have HF := Lib.hid hF
  have HG := Lib.hid hG
  clear hF hG
  go_enter Tryd.func83, Tryd.ntmps83
  go_wp2_with fail
  go_loopw [5, 13] (fun _ i wr => ∃ k : Nat, k ≤ n ∧ i = .int .i64 k ∧ sameB F G k ∧ Below w.heap.size w wr) (fun _ i _ => n - (intOf i).toNat)
  case atStart => exact ⟨0, Nat.zero_le _, rfl, fun i hi => absurd hi (Nat.not_lt_zero _), Below.refl _ _⟩
  case round =>
    obtain ⟨k, hk, rfl, hsm, hbw⟩ := hrel
    have HS := Lib.hid hsm
    have BW := Lib.hid hbw
    clear hsm hbw
    by_cases hlt : k < n
    · have z1 : (k : Int) < (n : Int) := by omega
      have z2 : (0 : Int) ≤ (k : Int) := by omega
      have FW := Lib.hid (HF.out.at (BW.out.block g HF.out.1) BW.out.size)
      have GW := Lib.hid (HG.out.at (BW.out.block h HG.out.1) BW.out.size)
      have a0 : wr.cell? ⟨g, k * 4, none⟩ = some (.int .u64 ((F k).lo : Nat)) := FW.out.2 k hlt 0 (by decide)
      have a1 : wr.cell? ⟨g, k * 4 + 1, none⟩ = some (.int .u64 ((F k).hi : Nat)) := FW.out.2 k hlt 1 (by decide)
      have a2 : wr.cell? ⟨g, k * 4 + 2, none⟩ = some (.int .i64 (F k).mn) := FW.out.2 k hlt 2 (by decide)
      have a3 : wr.cell? ⟨g, k * 4 + 3, none⟩ = some (.int .i64 (F k).mx) := FW.out.2 k hlt 3 (by decide)
      have b0 : wr.cell? ⟨h, k * 4, none⟩ = some (.int .u64 ((G k).lo : Nat)) := GW.out.2 k hlt 0 (by decide)
      have b1 : wr.cell? ⟨h, k * 4 + 1, none⟩ = some (.int .u64 ((G k).hi : Nat)) := GW.out.2 k hlt 1 (by decide)
      have b2 : wr.cell? ⟨h, k * 4 + 2, none⟩ = some (.int .i64 (G k).mn) := GW.out.2 k hlt 2 (by decide)
      have b3 : wr.cell? ⟨h, k * 4 + 3, none⟩ = some (.int .i64 (G k).mx) := GW.out.2 k hlt 3 (by decide)
      have EQ := Lib.hid (show F k = G k ↔ ((F k).lo = (G k).lo ∧ (F k).hi = (G k).hi ∧ (F k).mn = (G k).mn ∧ (F k).mx = (G k).mx) from ⟨fun e => by rw [e]; exact ⟨rfl, rfl, rfl, rfl⟩, fun ⟨e1, e2, e3, e4⟩ => by
        cases hf : F k; cases hg : G k
        simp only [hf, hg] at e1 e2 e3 e4
        rw [e1, e2, e3, e4]⟩)
      obtain ⟨b, hb⟩ : ∃ b : Bool, decide (((F k).lo : Int) = (G k).lo ∧ ((F k).hi : Int) = (G k).hi ∧ (F k).mn = (G k).mn ∧ (F k).mx = (G k).mx) = b := ⟨_, rfl⟩
      have HBB := Lib.hid hb
      have EB := Lib.hid (show b = true ↔ F k = G k from by rw [EQ.out, ← hb, decide_eq_true_eq, Int.natCast_inj, Int.natCast_inj])
      clear hb EQ
      go_wp2_with fail
      have BD := Lib.hid (BW.out.drew)
      refine wp_region_held_drew (S := fun (wx : World) => wx.cell? ⟨g, k * 4, none⟩ = some (.int .u64 ((F k).lo : Nat)) ∧ wx.cell? ⟨g, k * 4 + 1, none⟩ = some (.int .u64 ((F k).hi : Nat)) ∧ wx.cell? ⟨g, k * 4 + 2, none⟩ = some (.int .i64 (F k).mn) ∧ wx.cell? ⟨g, k * 4 + 3, none⟩ = some (.int .i64 (F k).mx) ∧ wx.cell? ⟨h, k * 4, none⟩ = some (.int .u64 ((G k).lo : Nat)) ∧ wx.cell? ⟨h, k * 4 + 1, none⟩ = some (.int .u64 ((G k).hi : Nat)) ∧ wx.cell? ⟨h, k * 4 + 2, none⟩ = some (.int .i64 (G k).mn) ∧ wx.cell? ⟨h, k * 4 + 3, none⟩ = some (.int .i64 (G k).mx)) (by kernel_rfl) ⟨a0, a1, a2, a3, b0, b1, b2, b3⟩ (fun hHeld => ?_)
      clear a0 a1 a2 a3 b0 b1 b2 b3
      generalize wr.drew = V at *
      refine wpAnyH_take (i := 0) (oi := ⟨some 16, .move (.tmp 0), 80, "slices.go:25", #[], none⟩) (v := ?vn1k0) rfl (by kernel_rfl) (by kernel_rfl) (by kernel_rfl) (fun _ _ _ h => h) (Or.inl ⟨by kernel_rfl, ?yn1k0⟩) (by assumption) ?rn1k0
      case yn1k0 => intro w hSw; (try dsimp only at hSw); go_simp; try with_reducible rfl
      try simp only [Act.put, List.setIfInBounds_toArray, List.set_cons_zero, List.set_cons_succ]
      refine wpAnyH_take (i := 1) (oi := ⟨some 17, .move (.tmp 5), 3, "slices.go:25", #[], none⟩) (v := ?vn2k1) rfl (by kernel_rfl) (by kernel_rfl) (by kernel_rfl) (fun _ _ _ h => h) (Or.inl ⟨by kernel_rfl, ?yn2k1⟩) (by assumption) ?rn2k1
      case yn2k1 => intro w hSw; (try dsimp only at hSw); go_simp; try with_reducible rfl
      try simp only [Act.put, List.setIfInBounds_toArray, List.set_cons_zero, List.set_cons_succ]
      refine wpAnyH_take (i := 2) (oi := ⟨some 18, .indexAddr 80 (.tmp 16) (.tmp 17), 0, "slices.go:25", #[⟨0, .data⟩, ⟨1, .data⟩], none⟩) (v := ?vn3k2) rfl (by kernel_rfl) (by kernel_rfl) (by kernel_rfl) (fun _ _ _ h => h) (Or.inl ⟨by kernel_rfl, ?yn3k2⟩) (by assumption) ?rn3k2
      case yn3k2 => intro w hSw; (try dsimp only at hSw); go_simp; try with_reducible rfl
      try simp only [Act.put, List.setIfInBounds_toArray, List.set_cons_zero, List.set_cons_succ]
      refine wpAnyH_take (i := 3) (oi := ⟨some 19, .load 53 (.tmp 18), 53, "slices.go:25", #[⟨2, .data⟩], none⟩) (v := ?vn4k3) rfl (by kernel_rfl) (by kernel_rfl) (by kernel_rfl) (fun _ _ _ h => h) (Or.inl ⟨by kernel_rfl, ?yn4k3⟩) (by assumption) ?rn4k3
      case yn4k3 => intro w hSw; (try dsimp only at hSw); go_simp; try with_reducible rfl
      try simp only [Act.put, List.setIfInBounds_toArray, List.set_cons_zero, List.set_cons_succ]
      refine wpAnyH_take (i := 4) (oi := ⟨some 20, .move (.tmp 1), 80, "slices.go:25", #[], none⟩) (v := ?vn5k4) rfl (by kernel_rfl) (by kernel_rfl) (by kernel_rfl) (fun _ _ _ h => h) (Or.inl ⟨by kernel_rfl, ?yn5k4⟩) (by assumption) ?rn5k4
      case yn5k4 => intro w hSw; (try dsimp only at hSw); go_simp; try with_reducible rfl
      try simp only [Act.put, List.setIfInBounds_toArray, List.set_cons_zero, List.set_cons_succ]
      refine wpAnyH_take (i := 5) (oi := ⟨some 21, .move (.tmp 5), 3, "slices.go:25", #[], none⟩) (v := ?vn6k5) rfl (by kernel_rfl) (by kernel_rfl) (by kernel_rfl) (fun _ _ _ h => h) (Or.inl ⟨by kernel_rfl, ?yn6k5⟩) (by assumption) ?rn6k5
      case yn6k5 => intro w hSw; (try dsimp only at hSw); go_simp; try with_reducible rfl
      try simp only [Act.put, List.setIfInBounds_toArray, List.set_cons_zero, List.set_cons_succ]
      refine wpAnyH_take (i := 6) (oi := ⟨some 22, .indexAddr 80 (.tmp 20) (.tmp 21), 0, "slices.go:25", #[⟨4, .data⟩, ⟨5, .data⟩], none⟩) (v := ?vn7k6) rfl (by kernel_rfl) (by kernel_rfl) (by kernel_rfl) (fun _ _ _ h => h) (Or.inl ⟨by kernel_rfl, ?yn7k6⟩) (by assumption) ?rn7k6
      case yn7k6 => intro w hSw; (try dsimp only at hSw); go_simp; try with_reducible rfl
      try simp only [Act.put, List.setIfInBounds_toArray, List.set_cons_zero, List.set_cons_succ]
      refine wpAnyH_take (i := 7) (oi := ⟨some 23, .load 53 (.tmp 22), 53, "slices.go:25", #[⟨6, .data⟩], none⟩) (v := ?vn8k7) rfl (by kernel_rfl) (by kernel_rfl) (by kernel_rfl) (fun _ _ _ h => h) (Or.inl ⟨by kernel_rfl, ?yn8k7⟩) (by assumption) ?rn8k7
      case yn8k7 => intro w hSw; (try dsimp only at hSw); go_simp; try with_reducible rfl
      try simp only [Act.put, List.setIfInBounds_toArray, List.set_cons_zero, List.set_cons_succ]
      refine wpAnyH_take (i := 8) (oi := ⟨some 24, .binOp .neq 53 (.tmp 19) (.tmp 23) 53, 4, "slices.go:25", #[⟨3, .data⟩, ⟨7, .data⟩], none⟩) (v := .bool (!b)) rfl (by kernel_rfl) (by kernel_rfl) (by kernel_rfl) (fun _ _ _ h => h) (Or.inl ⟨by kernel_rfl, ?y8⟩) (by assumption) ?r8
      case y8 =>
        intro w hSw; (try dsimp only at hSw); go_simp
        rw [← HBB.out]
        by_cases h1 : ((F k).lo : Int) = (G k).lo <;> by_cases h2 : ((F k).hi : Int) = (G k).hi <;> by_cases h3 : (F k).mn = (G k).mn <;> by_cases h4 : (F k).mx = (G k).mx <;> simp [h1, h2, h3, h4]
      try simp only [Act.put, List.setIfInBounds_toArray, List.set_cons_zero, List.set_cons_succ]
      refine wpAnyH_done (by kernel_rfl) ?_ _
      clear hHeld HBB
      cases b with
      | false =>
        go_wp2_with fail
        refine bodyPost_ret (v := .bool false) (by simp [results, Tryd.results83, go_sem]) rfl ?_
        exact ⟨⟨false, rfl, ⟨fun h => absurd h (by decide), fun h => EB.out.2 (h k hlt)⟩⟩, BD.out⟩
      | true =>
        go_wp2_with fail
        refine ⟨⟨k + 1, by omega, by go_num, fun i hi => ?_, BD.out⟩, ?_⟩
        · rcases Nat.lt_succ_iff_lt_or_eq.mp hi with hi | rfl
          · exact HS.out i hi
          · exact EB.out.1 rfl
        · simp [intOf]; omega
    · obtain rfl : k = n := by omega
      go_wp2_with fail
      refine bodyPost_ret (v := .bool true) (by simp [results, Tryd.results83, go_sem]) rfl ?_
      exact ⟨⟨true, rfl, ⟨fun _ => HS.out, fun _ => rfl⟩⟩, BW.out⟩
end Go.Proofs.YthakhdbakmlooaaDoor

/-
  A row of bounds copied.
-/
namespace Go.Proofs.YthakhdbakmlooaaDoor
set_option linter.unusedSimpArgs false
open Go Go.RowKit Go.Shelf Go.Ev

theorem infoB : (Tryd.prog.info? 53).map (fun i => (i.zero, i.size, i.bytes)) = some (some (.agg #[.int .u64 0, .int .u64 0, .int .i64 0, .int .i64 0]), 4, 32) := by kernel_rfl
/-- the cells of n bounds -/
def flatB (F : Nat → BdV) (n : Nat) : List Value := (List.range (n * 4)).map fun i => bdCell (F (i / 4)) (i % 4)
theorem flatB_length (F : Nat → BdV) (n : Nat) : (flatB F n).length = n * 4 := by simp [flatB]
theorem flatB_get (F : Nat → BdV) (n j : Nat) (h : j < n * 4) : (flatB F n)[j]? = some (bdCell (F (j / 4)) (j % 4)) := by
  simp [flatB, List.getElem?_map, List.getElem?_range, h]
theorem bdCell_one (b : BdV) (j : Nat) : (bdCell b j).oneCell' = true := by
  unfold bdCell
  split <;> rfl
/-- a copy: a row of one's own -/
def CloneB (F : Nat → BdV) (n : Nat) (w : World) (e : Ending) (w' : World) : Prop := ∃ g cap, e = .returned (.slice (some ⟨g, 0, none⟩) n cap) ∧ w.heap.size ≤ g ∧ BCells w' g n F ∧ Below w.heap.size w w'
theorem bcells_of_owns {W : World} {base n : Nat} {v : Value} {F : Nat → BdV} (h : W.ownsRow base 53 4 v n (flatB F n)) (hv : v ≠ .slice none 0 0) : ∃ g cap, v = .slice (some ⟨g, 0, none⟩) n cap ∧ base ≤ g ∧ BCells W g n F := by
  obtain ⟨h1, h2⟩ := h
  rcases h2 with ⟨h0, _⟩ | ⟨g', cap', cur, hv, hb, hg, hc, hm, hs, ht⟩
  · exact absurd h0 hv
  · refine ⟨g', cap', hv, hb, (Array.getElem?_eq_some_iff.1 hg).1, fun i hi j hj => ?_⟩
    have : (cur.toList.take (n * 4))[i * 4 + j]? = some (bdCell (F i) j) := by
      rw [ht, flatB_get F n _ (by omega), show (i * 4 + j) / 4 = i by omega, show (i * 4 + j) % 4 = j by omega]
    rw [List.getElem?_take, if_pos (by omega)] at this
    simp only [World.cell?, hg]
    simpa using this
theorem own_emptyB (w : World) : (w.alloc (.cells #[] 53)).ownsRow w.heap.size 53 4 (.slice (some ⟨w.heap.size, 0, none⟩) 0 0) 0 [] :=
  ⟨rfl, .inr ⟨w.heap.size, 0, #[], rfl, Nat.le_refl _, heap_alloc_new _ _, Nat.le_refl _, by decide, rfl, rfl⟩⟩
set_option maxRecDepth 100000 in
set_option maxHeartbeats 4000000 in
theorem cloneB_any (F : Nat → BdV) (g n c : Nat) (w : World) (hn : n ≤ 1000000) (ha : BCells w g n F) :
    Calls Tryd.prog 81 #[.slice (some ⟨g, 0, none⟩) n c] w (CloneB F n w) := by
  obtain ⟨i0, hi, hz0, hz1, hz2⟩ := info_parts infoB
  have HA := Lib.hid ha
  clear ha
  obtain ⟨Q, hQ⟩ : ∃ Q, CloneB F n w = Q := ⟨_, rfl⟩
  rw [hQ]
  have HQ := Lib.hid hQ
  clear hQ
  have q1 : ∀ w, (binOp .eql 80 (.slice (some ⟨g, 0, none⟩) n c) (.slice none 0 0)).run Tryd.prog w = .ok (.bool false) w := fun w => Lib.run_eql_slice_nil (P := Tryd.prog) w 80 53 (some ⟨g, 0, none⟩) n c 0 0 Tryd.underlying80
  go_enter Tryd.func81, Tryd.ntmps81
  repeat ((fail_if_success at_builtin); go_step)
  at_builtin
  refine wpList_append_own_at _ rfl _ _ 80 rfl w.heap.size 53 i0 (.agg #[.int .u64 0, .int .u64 0, .int .i64 0, .int .i64 0]) 4 32 Tryd.underlying80 hi hz0 hz1 hz2 rfl (by decide) _ 0 [] rfl (own_emptyB w) ⟨g, 0, none⟩ n c (flatB F n) rfl (flatB_length F n) ?c1 ?c2 ?c3 ?c4 ?c5 ?_
  case c1 =>
    intro j u hj
    have hjl : j < n * 4 := by
      have := (List.getElem?_eq_some_iff.1 hj).1
      rwa [flatB_length] at this
    rw [flatB_get F n j hjl] at hj
    rw [Addr.add_mid]
    have c0 : (w.alloc (.cells #[] 53)).cell? ⟨g, 0 + j, none⟩ = w.cell? ⟨g, 0 + j, none⟩ := World.cell?_alloc_lt _ _ _ HA.out.1
    have c1 := HA.out.2 (j / 4) (by omega) (j % 4) (by omega)
    rw [show j / 4 * 4 + j % 4 = j by omega] at c1
    rw [c0, Nat.zero_add, c1, ← hj]
  case c2 =>
    intro u hu
    obtain ⟨y, _, rfl⟩ := List.mem_map.1 hu
    exact bdCell_one _ _
  case c3 => unfold maxLen; omega
  case c4 => omega
  case c5 => simp
  intro v' w2 hown hgrow hnil _
  rw [List.nil_append, Nat.zero_add] at hown
  obtain ⟨g', cap, hv, hb, hc⟩ := bcells_of_owns hown (fun h => by have := (hnil.1 h).1; cases this)
  subst hv
  have hk : CloneB F n w (.returned (.slice (some ⟨g', 0, none⟩) n cap)) w2 := ⟨g', cap, rfl, hb, hc, ((Below.refl _ w).alloc (Nat.le_refl _) _).grown hgrow (by simp) (fun k e => by cases e; exact Nat.le_refl _)⟩
  rw [HQ.out] at hk
  have HK := Lib.hid hk
  clear hk hown hgrow hnil HA HQ hb hc
  go_wp2_with fail
  exact HK.out
end Go.Proofs.YthakhdbakmlooaaDoor

/-
  Plain: what relations leave of a row narrows; passes over the relations; a measure.
-/
namespace Go.Proofs.YthakhdbakmlooaaDoor
set_option linter.unusedSimpArgs false
open Go Go.RowKit Go.Shelf Go.Ev

/-- one pair of bounds is no wider than another -/
def nar (b c : BdV) : Prop := c.lo ≤ b.lo ∧ b.hi ≤ c.hi ∧ c.mn ≤ b.mn ∧ b.mx ≤ c.mx
theorem nar.refl (b : BdV) : nar b b := ⟨Nat.le_refl _, Nat.le_refl _, Int.le_refl _, Int.le_refl _⟩
theorem nar.trans {a b c : BdV} (h : nar a b) (k : nar b c) : nar a c := ⟨Nat.le_trans k.1 h.1, Nat.le_trans h.2.1 k.2.1, Int.le_trans k.2.2.1 h.2.2.1, Int.le_trans h.2.2.2 k.2.2.2⟩
/-- from F to G all narrows, and only the places of a list change -/
def Stp (S : List Nat) (F G : Nat → BdV) : Prop := (∀ i, nar (G i) (F i)) ∧ ∀ i, i ∉ S → G i = F i
theorem Stp.refl (S : List Nat) (F : Nat → BdV) : Stp S F F := ⟨fun _ => nar.refl _, fun _ _ => rfl⟩
theorem Stp.trans {S : List Nat} {F G H : Nat → BdV} (h : Stp S F G) (k : Stp S G H) : Stp S F H := ⟨fun i => (k.1 i).trans (h.1 i), fun i hi => (k.2 i hi).trans (h.2 i hi)⟩
theorem Stp.upd {S : List Nat} {x : Nat} (hx : x ∈ S) (F : Nat → BdV) (b : BdV) (h : nar b (F x)) : Stp S F (upd F x b) := by
  refine ⟨fun i => ?_, fun i hi => ?_⟩
  · by_cases e : i = x
    · rw [e, upd_same]; exact h
    · rw [upd_other _ _ e]; exact nar.refl _
  · exact upd_other _ _ fun e => hi (e ▸ hx)
theorem Stp.into {S : List Nat} {x : Nat} (hx : x ∈ S) (F : Nat → BdV) (s : Nat) : Stp S F (intoF F x s) := Stp.upd hx F _ ⟨Nat.left_le_or, Nat.le_refl _, Int.le_refl _, Int.le_refl _⟩
theorem Stp.out {S : List Nat} {x : Nat} (hx : x ∈ S) (F : Nat → BdV) (s : Nat) : Stp S F (outF F x s) := Stp.upd hx F _ ⟨Nat.le_refl _, Nat.and_le_left, Int.le_refl _, Int.le_refl _⟩
theorem Stp.least {S : List Nat} {x : Nat} (hx : x ∈ S) (F : Nat → BdV) (k : Int) : Stp S F (leastF F x k) := Stp.upd hx F _ ⟨Nat.le_refl _, Nat.le_refl _, Int.le_max_left _ _, Int.le_refl _⟩
theorem Stp.most {S : List Nat} {x : Nat} (hx : x ∈ S) (F : Nat → BdV) (k : Int) : Stp S F (mostF F x k) := Stp.upd hx F _ ⟨Nat.le_refl _, Nat.le_refl _, Int.le_refl _, Int.min_le_left _ _⟩
section
variable {S : List Nat} {x y z : Nat} (F : Nat → BdV) (hx : x ∈ S) (hy : y ∈ S) (hz : z ∈ S)
include hx hy
theorem stp_part : Stp S F (partF F x y) := by
  unfold partF
  exact (Stp.into hy F _).trans ((Stp.out hx _ _).trans ((Stp.most hx _ _).trans (Stp.least hy _ _)))
theorem stp_apart : Stp S F (apartF F x y) := by
  unfold apartF
  exact (Stp.out hx F _).trans (Stp.out hy _ _)
include hz
theorem stp_union : Stp S F (unionF F x y z) := by
  unfold unionF
  exact (Stp.into hz F _).trans ((Stp.out hx _ _).trans ((Stp.out hy _ _).trans ((Stp.out hz _ _).trans ((Stp.into hx _ _).trans ((Stp.into hy _ _).trans ((Stp.most hz _ _).trans (Stp.least hz _ _)))))))
theorem stp_meet : Stp S F (meetF F x y z) := by
  unfold meetF
  exact (Stp.into hz F _).trans ((Stp.into hx _ _).trans ((Stp.into hy _ _).trans ((Stp.out hz _ _).trans ((Stp.out hx _ _).trans ((Stp.out hy _ _).trans (Stp.most hz _ _))))))
theorem stp_minus : Stp S F (minusF F x y z) := by
  unfold minusF
  exact (Stp.into hz F _).trans ((Stp.into hx _ _).trans ((Stp.out hy _ _).trans ((Stp.out hz _ _).trans ((Stp.into hy _ _).trans (Stp.most hz _ _)))))
end
/-- the places that a relation names -/
def plc (vs : List Int) : List Nat := vs.map Int.toNat
theorem plc_getD {vs : List Int} {j : Nat} (h : j < vs.length) : (vs.getD j 0).toNat ∈ plc vs := by
  rw [List.getD_eq_getElem?_getD, List.getElem?_eq_getElem h]
  exact List.mem_map.2 ⟨_, List.getElem_mem h, rfl⟩
theorem stp_rel {d : Kd} {vs : List Int} {n : Int} {F G : Nat → BdV} {m : Nat} (hm : varsN d = some m) (hl : vs.length = m) (h : relF d vs n F = some G) : Stp (plc vs) F G := by
  unfold relF at h
  cases d <;> simp only [varsN, Option.some.injEq, reduceCtorEq] at hm <;> dsimp only at h
  case part => cases h; exact stp_part F (plc_getD (by omega)) (plc_getD (by omega))
  case apart => cases h; exact stp_apart F (plc_getD (by omega)) (plc_getD (by omega))
  case union => cases h; exact stp_union F (plc_getD (by omega)) (plc_getD (by omega)) (plc_getD (by omega))
  case meet => cases h; exact stp_meet F (plc_getD (by omega)) (plc_getD (by omega)) (plc_getD (by omega))
  case minus => cases h; exact stp_minus F (plc_getD (by omega)) (plc_getD (by omega)) (plc_getD (by omega))
  case has =>
    split at h
    · cases h; exact Stp.into (plc_getD (by omega)) F _
    · cases h
  case lacks =>
    split at h
    · cases h; exact Stp.out (plc_getD (by omega)) F _
    · cases h; exact Stp.refl _ _
  case size => cases h; exact (Stp.least (plc_getD (by omega)) F _).trans (Stp.most (plc_getD (by omega)) _ _)
theorem bits_rel {d : Kd} {vs : List Int} {n : Int} {F G : Nat → BdV} (hB : Bits F) (h : relF d vs n F = some G) : Bits G := by
  unfold relF at h
  cases d <;> dsimp only at h
  case part => cases h; exact bits_part hB _ _
  case apart => cases h; exact bits_apart hB _ _
  case union => cases h; exact bits_union hB _ _ _
  case meet => cases h; exact bits_meet hB _ _ _
  case minus => cases h; exact bits_minus hB _ _ _
  case has =>
    split at h
    · next hn =>
      cases h
      refine hB.into _ _ ?_
      have : n.toNat < 64 := by simp only [inR, Bool.and_eq_true, decide_eq_true_eq] at hn; omega
      exact Nat.pow_lt_pow_right (by decide) this
    · cases h
  case lacks =>
    split at h
    · cases h; exact hB.out _ _
    · cases h; exact hB
  case size => cases h; exact (hB.least _ _).most _ _
  case none => cases h
/-- bounds in their ranges -/
def FineB (b : BdV) : Prop := b.lo < 18446744073709551616 ∧ b.hi < 18446744073709551616 ∧ 0 ≤ b.mn ∧ b.mn ≤ b.mx ∧ b.mx ≤ 64
def Fine (F : Nat → BdV) : Prop := ∀ i, FineB (F i)
theorem Fine.bits {F : Nat → BdV} (h : Fine F) : Bits F := fun i => ⟨(h i).1, (h i).2.1⟩
theorem Fine.most {F : Nat → BdV} (h : Fine F) (i : Nat) : 0 ≤ (F i).mx ∧ (F i).mx ≤ 64 := ⟨Int.le_trans (h i).2.2.1 (h i).2.2.2.1, (h i).2.2.2.2⟩
theorem sub_zero_le {a b : Nat} (ha : a < 18446744073709551616) (hb : b < 18446744073709551616) (h : sub64 a b = 0) : a ≤ b := by
  have h1 := (sub_zero ha hb).1 h
  have : a &&& b = a := by
    refine Nat.eq_of_testBit_eq fun i => ?_
    rw [Nat.testBit_and]
    cases h2 : a.testBit i
    · simp
    · simp [h1 i h2]
  rw [← this]
  exact Nat.and_le_right
theorem fine_norm {b : BdV} (h1 : b.lo < 18446744073709551616) (h2 : b.hi < 18446744073709551616) (hk : okB b = true) : FineB (normB b) ∧ nar (normB b) b := by
  simp only [okB, okN, Bool.and_eq_true, decide_eq_true_eq] at hk
  have hle := sub_zero_le h1 h2 hk.1
  have h64 := ones_le64 h2
  have hk2 := hk.2
  refine ⟨⟨nlo_lt h1 h2, nhi_lt h1 h2, ?_, hk2, ?_⟩, ⟨?_, ?_, ?_, ?_⟩⟩
  · simp only [normB, nmn]; omega
  · simp only [normB, nmx]; omega
  · simp only [normB, nlo]; split <;> omega
  · simp only [normB, nhi]
    split
    · omega
    · split <;> omega
  · simp only [normB, nmn]; omega
  · simp only [normB, nmx]; omega
theorem norms_stp : ∀ (vs : List Int) (F : Nat → BdV), Bits F → (normsF F vs).1 = true → Stp (plc vs) F (normsF F vs).2 ∧ Bits (normsF F vs).2 ∧ ∀ i, i ∈ plc vs → FineB ((normsF F vs).2 i)
  | [], F, hB, _ => ⟨Stp.refl _ _, hB, fun _ h => absurd h (by simp [plc])⟩
  | v :: vs, F, hB, h => by
    cases hk : okB (F v.toNat) with
    | false => rw [normsF_cons_bad hk] at h; cases h
    | true =>
      rw [normsF_cons_ok hk] at h ⊢
      obtain ⟨i1, i2, i3⟩ := norms_stp vs _ (bits_norm hB v.toNat) h
      have hn := fine_norm (hB v.toNat).1 (hB v.toNat).2 hk
      have s1 : Stp (plc (v :: vs)) F (upd F v.toNat (normB (F v.toNat))) := Stp.upd (List.mem_cons_self) F _ hn.2
      refine ⟨s1.trans ⟨i1.1, fun i hi => i1.2 i fun hh => hi (List.mem_cons_of_mem _ hh)⟩, i2, fun i hi => ?_⟩
      by_cases hv : i ∈ plc vs
      · exact i3 i hv
      · rcases List.mem_cons.1 hi with e | e
        · rw [i1.2 i hv, e, upd_same]; exact hn.1
        · exact absurd e hv
theorem follow_stp {d : Kd} {vs : List Int} {n : Int} {F : Nat → BdV} {m : Nat} (hm : varsN d = some m) (hl : vs.length = m) (hF : Fine F) (h : (followF d vs n F).1 = true) : (∀ i, nar ((followF d vs n F).2 i) (F i)) ∧ Fine (followF d vs n F).2 := by
  unfold followF at h ⊢
  cases hr : relF d vs n F with
  | none => rw [hr] at h; cases h
  | some G =>
    rw [hr] at h
    dsimp only at h ⊢
    have s1 := stp_rel hm hl hr
    obtain ⟨s2, _, s3⟩ := norms_stp vs G (bits_rel hF.bits hr) h
    refine ⟨(s1.trans s2).1, fun i => ?_⟩
    by_cases hv : i ∈ plc vs
    · exact s3 i hv
    · rw [(s1.trans s2).2 i hv]; exact hF i
/-- a relation as it lies -/
structure RelV where
  k : ByteArray
  d : Kd
  vs : List Int
  N : Int
  A : Option Addr
  c : Nat
/-- one pass over the relations -/
def passF : List RelV → (Nat → BdV) → Bool × (Nat → BdV)
  | [], F => (true, F)
  | r :: rs, F => if (followF r.d r.vs r.N F).1 = true then passF rs (followF r.d r.vs r.N F).2 else (false, F)
/-- passes, until one leaves all as it is, or fails -/
inductive Sett (rs : List RelV) (n : Nat) : (Nat → BdV) → Bool → (Nat → BdV) → Prop
  | fail {F : Nat → BdV} : (passF rs F).1 = false → Sett rs n F false F
  | done {F : Nat → BdV} : (passF rs F).1 = true → sameB (passF rs F).2 F n → Sett rs n F true (passF rs F).2
  | next {F H : Nat → BdV} {b : Bool} : (passF rs F).1 = true → ¬ sameB (passF rs F).2 F n → Sett rs n (passF rs F).2 b H → Sett rs n F b H
theorem pass_stp : ∀ (rs : List RelV) (F : Nat → BdV), (∀ r ∈ rs, ∃ m, varsN r.d = some m ∧ r.vs.length = m) → Fine F → (passF rs F).1 = true → (∀ i, nar ((passF rs F).2 i) (F i)) ∧ Fine (passF rs F).2
  | [], _, _, hF, _ => ⟨fun _ => nar.refl _, hF⟩
  | r :: rs, F, hr, hF, h => by
    obtain ⟨m, hm, hl⟩ := hr r List.mem_cons_self
    unfold passF at h ⊢
    by_cases hk : (followF r.d r.vs r.N F).1 = true
    · rw [if_pos hk] at h ⊢
      have f := follow_stp hm hl hF hk
      have p := pass_stp rs _ (fun r' h' => hr r' (List.mem_cons_of_mem _ h')) f.2 h
      exact ⟨fun i => (p.1 i).trans (f.1 i), p.2⟩
    · rw [if_neg hk] at h; cases h
/-- what is left to narrow -/
def mB (b : BdV) : Nat := (18446744073709551616 - b.lo) + b.hi + (64 - b.mn).toNat + b.mx.toNat
def sumM (F : Nat → BdV) : Nat → Nat
  | 0 => 0
  | n + 1 => sumM F n + mB (F n)
theorem mB_le {b c : BdV} (h : nar b c) : mB b ≤ mB c := by
  obtain ⟨h1, h2, h3, h4⟩ := h
  unfold mB
  omega
theorem mB_lt {b c : BdV} (hb : FineB b) (hc : FineB c) (h : nar b c) (hne : b ≠ c) : mB b < mB c := by
  obtain ⟨h1, h2, h3, h4⟩ := h
  obtain ⟨b1, b2, b3, b4, b5⟩ := hb
  obtain ⟨c1, c2, c3, c4, c5⟩ := hc
  have : ¬ (b.lo = c.lo ∧ b.hi = c.hi ∧ b.mn = c.mn ∧ b.mx = c.mx) := fun ⟨e1, e2, e3, e4⟩ => hne (by
    cases b; cases c
    simp only at e1 e2 e3 e4
    rw [e1, e2, e3, e4])
  unfold mB
  omega
theorem sum_le {F G : Nat → BdV} (h : ∀ i, nar (G i) (F i)) : ∀ n, sumM G n ≤ sumM F n
  | 0 => Nat.le_refl _
  | n + 1 => Nat.add_le_add (sum_le h n) (mB_le (h n))
theorem sum_lt {F G : Nat → BdV} (hF : Fine F) (hG : Fine G) (h : ∀ i, nar (G i) (F i)) : ∀ n, ¬ sameB G F n → sumM G n < sumM F n
  | 0, hs => absurd (fun i hi => absurd hi (Nat.not_lt_zero i)) hs
  | n + 1, hs => by
    by_cases e : G n = F n
    · have := sum_lt hF hG h n fun hh => hs fun i hi => by
        rcases Nat.lt_succ_iff_lt_or_eq.mp hi with hi | rfl
        · exact hh i hi
        · exact e
      have h2 := mB_le (h n)
      unfold sumM
      omega
    · have h1 := sum_le h n
      have h2 := mB_lt (hG n) (hF n) (h n) e
      unfold sumM
      omega
/-- what lies in a row, read off -/
def intAt (w : World) (g o : Nat) : Int := match w.cell? ⟨g, o, none⟩ with
  | some v => intOf v
  | none => 0
def rdB (w : World) (g i : Nat) : BdV := ⟨(intAt w g (i * 4)).toNat, (intAt w g (i * 4 + 1)).toNat, intAt w g (i * 4 + 2), intAt w g (i * 4 + 3)⟩
theorem BRow.read {w : World} {g n : Nat} {F : Nat → BdV} (h : BRow w g n F) {i : Nat} (hi : i < n) : rdB w g i = F i := by
  have c0 := h.cell hi 0 (by decide)
  have c1 := h.cell hi 1 (by decide)
  have c2 := h.cell hi 2 (by decide)
  have c3 := h.cell hi 3 (by decide)
  rw [Nat.add_zero] at c0
  unfold rdB intAt
  rw [c0, c1, c2, c3]
  simp [bdCell, intOf]
theorem sum_read {F G : Nat → BdV} : ∀ n, (∀ i, i < n → F i = G i) → sumM F n = sumM G n
  | 0, _ => rfl
  | n + 1, h => by
    unfold sumM
    rw [sum_read n fun i hi => h i (Nat.lt_succ_of_lt hi), h n (Nat.lt_succ_self n)]
end Go.Proofs.YthakhdbakmlooaaDoor
