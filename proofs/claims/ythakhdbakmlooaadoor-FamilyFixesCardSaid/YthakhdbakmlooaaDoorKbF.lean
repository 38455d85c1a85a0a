/-
  A row of bounds in one block: what is set in one of them.
-/
import Derived.Deep.OwnRows
import Derived.Deep.CutRange
import Derived.Test.YthakhdbakmlooaaDoorKbE
import Derived.Deep.RegionHeld
namespace Go.Proofs.YthakhdbakmlooaaDoor
set_option linter.unusedSimpArgs false
open Go Go.RowKit Go.Shelf Go.Ev

/-- bounds in words -/
structure BdV where
  lo : Nat
  hi : Nat
  mn : Int
  mx : Int
def bdCell (b : BdV) (j : Nat) : Value := match j with
  | 0 => .int .u64 (b.lo : Int)
  | 1 => .int .u64 (b.hi : Int)
  | 2 => .int .i64 b.mn
  | _ => .int .i64 b.mx
/-- one of them is another one -/
def upd (F : Nat → BdV) (x : Nat) (b : BdV) : Nat → BdV := fun i => if i = x then b else F i
/-- n bounds lie in a row -/
def BRow (w : World) (g n : Nat) (F : Nat → BdV) : Prop := w.rowIs g 53 (n * 4) (fun i => bdCell (F (i / 4)) (i % 4))
/-- n bounds lie in a row, that at x as said -/
def BdR (g n : Nat) (F : Nat → BdV) (x : Nat) (w : World) (lo hi : Nat) (mn mx : Int) : Prop := x < n ∧ BRow w g n (upd F x ⟨lo, hi, mn, mx⟩)
theorem upd_same (F : Nat → BdV) (x : Nat) (b : BdV) : upd F x b x = b := if_pos rfl
theorem upd_other (F : Nat → BdV) {x i : Nat} (b : BdV) (h : i ≠ x) : upd F x b i = F i := if_neg h
theorem upd_self (F : Nat → BdV) (x : Nat) : upd F x (F x) = F := by
  funext i
  unfold upd
  split
  · next h => rw [h]
  · rfl
theorem upd_upd (F : Nat → BdV) (x : Nat) (a b : BdV) : upd (upd F x a) x b = upd F x b := by
  funext i
  unfold upd
  split <;> rfl
theorem BRow.cell {w : World} {g n : Nat} {F : Nat → BdV} (h : BRow w g n F) {x : Nat} (hx : x < n) (j : Nat) (hj : j < 4) : w.cell? ⟨g, x * 4 + j, none⟩ = some (bdCell (F x) j) := by
  have := World.rowIs.cell h (i := x * 4 + j) (by omega)
  rwa [show (x * 4 + j) / 4 = x by omega, show (x * 4 + j) % 4 = j by omega] at this
theorem BRow.put {w : World} {g n : Nat} {F : Nat → BdV} (h : BRow w g n F) (x : Nat) (j : Nat) (hj : j < 4) (b : BdV) (hb : ∀ i, i < 4 → i ≠ j → bdCell b i = bdCell (F x) i) : BRow (w.setCell ⟨g, x * 4 + j, none⟩ (bdCell b j)) g n (upd F x b) := by
  refine (World.rowIs.set h (x * 4 + j) (bdCell b j)).congr fun i _ => ?_
  by_cases e : i = x * 4 + j
  · rw [if_pos e, e, show (x * 4 + j) / 4 = x by omega, show (x * 4 + j) % 4 = j by omega, upd_same]
  · rw [if_neg e]
    by_cases e2 : i / 4 = x
    · rw [e2, upd_same]
      exact (hb _ (Nat.mod_lt _ (by decide)) (by omega)).symm
    · rw [upd_other _ _ e2]
theorem BRow.at {w w' : World} {g n : Nat} {F : Nat → BdV} (h : BRow w g n F) (e : w'.heap[g]? = w.heap[g]?) : BRow w' g n F := World.rowIs.of_block h e
theorem BRow.to {w : World} {g n : Nat} {F : Nat → BdV} (h : BRow w g n F) {x : Nat} (hx : x < n) : BdR g n F x w (F x).lo (F x).hi (F x).mn (F x).mx := ⟨hx, by rw [show (⟨(F x).lo, (F x).hi, (F x).mn, (F x).mx⟩ : BdV) = F x from rfl, upd_self]; exact h⟩
section
variable {g n : Nat} {F : Nat → BdV} {x : Nat} {w : World} {lo hi : Nat} {mn mx : Int}
theorem BdR.facts (h : BdR g n F x w lo hi mn mx) : w.cell? ⟨g, x * 4, none⟩ = some (.int .u64 lo) ∧ w.cell? ⟨g, x * 4 + 1, none⟩ = some (.int .u64 hi) ∧ w.cell? ⟨g, x * 4 + 2, none⟩ = some (.int .i64 mn) ∧ w.cell? ⟨g, x * 4 + 3, none⟩ = some (.int .i64 mx) ∧ ∀ o, w.frozen? ⟨g, o, none⟩ = false := by
  have c0 := h.2.cell h.1 0 (by decide)
  have c1 := h.2.cell h.1 1 (by decide)
  have c2 := h.2.cell h.1 2 (by decide)
  have c3 := h.2.cell h.1 3 (by decide)
  rw [upd_same] at c0 c1 c2 c3
  exact ⟨c0, c1, c2, c3, fun o => World.rowIs.frozen h.2 o⟩
theorem BdR.set0 (h : BdR g n F x w lo hi mn mx) (v : Nat) : BdR g n F x (w.setCell ⟨g, x * 4, none⟩ (.int .u64 (v : Int))) v hi mn mx := by
  have := h.2.put x 0 (by decide) ⟨v, hi, mn, mx⟩ (by rw [upd_same]; intro i hi hj; match i, hi, hj with | 1, _, _ => rfl | 2, _, _ => rfl | 3, _, _ => rfl)
  rw [upd_upd] at this
  exact ⟨h.1, this⟩
theorem BdR.set1 (h : BdR g n F x w lo hi mn mx) (v : Nat) : BdR g n F x (w.setCell ⟨g, x * 4 + 1, none⟩ (.int .u64 (v : Int))) lo v mn mx := by
  have := h.2.put x 1 (by decide) ⟨lo, v, mn, mx⟩ (by rw [upd_same]; intro i hi hj; match i, hi, hj with | 0, _, _ => rfl | 2, _, _ => rfl | 3, _, _ => rfl)
  rw [upd_upd] at this
  exact ⟨h.1, this⟩
theorem BdR.set2 (h : BdR g n F x w lo hi mn mx) (v : Int) : BdR g n F x (w.setCell ⟨g, x * 4 + 2, none⟩ (.int .i64 v)) lo hi v mx := by
  have := h.2.put x 2 (by decide) ⟨lo, hi, v, mx⟩ (by rw [upd_same]; intro i hi hj; match i, hi, hj with | 0, _, _ => rfl | 1, _, _ => rfl | 3, _, _ => rfl)
  rw [upd_upd] at this
  exact ⟨h.1, this⟩
theorem BdR.set3 (h : BdR g n F x w lo hi mn mx) (v : Int) : BdR g n F x (w.setCell ⟨g, x * 4 + 3, none⟩ (.int .i64 v)) lo hi mn v := by
  have := h.2.put x 3 (by decide) ⟨lo, hi, mn, v⟩ (by rw [upd_same]; intro i hi hj; match i, hi, hj with | 0, _, _ => rfl | 1, _, _ => rfl | 2, _, _ => rfl | 3, _, hj => exact absurd rfl hj)
  rw [upd_upd] at this
  exact ⟨h.1, this⟩
end
set_option maxHeartbeats 2000000 in
theorem into_row (g N : Nat) (F : Nat → BdV) (x : Nat) (lo hi : Nat) (mn mx : Int) (s : Nat) (w : World) (h : BdR g N F x w lo hi mn mx) (h1 : lo < 18446744073709551616) (h2 : s < 18446744073709551616) :
    Calls Tryd.prog 47 #[.pointer (some ⟨g, x * 4, none⟩), .int .u64 s] w fun e w' => e = .returned (.tuple #[]) ∧ BdR g N F x w' (lo ||| s) hi mn mx ∧ Only g w w' := by
  obtain ⟨c0, c1, c2, c3, fz⟩ := h.facts
  have f0 := fz (x * 4)
  have HS := Lib.hid h
  clear h fz
  have G := Lib.hid (bits_or_u64_nat lo s h1 h2)
  clear h1 h2
  go_enter Tryd.func47, Tryd.ntmps47
  go_wp2_with fail
  rw [G.out]
  have h5 := HS.out.set0 (lo ||| s)
  exact bodyPost_end (v := .tuple #[]) (by simp [results, Tryd.results47, go_sem]) rfl ⟨rfl, h5, Only.set _ _ _⟩
set_option maxHeartbeats 2000000 in
theorem out_row (g N : Nat) (F : Nat → BdV) (x : Nat) (lo hi : Nat) (mn mx : Int) (s : Nat) (w : World) (h : BdR g N F x w lo hi mn mx) (h1 : hi < 18446744073709551616) (h2 : s < 18446744073709551616) :
    Calls Tryd.prog 48 #[.pointer (some ⟨g, x * 4, none⟩), .int .u64 s] w fun e w' => e = .returned (.tuple #[]) ∧ BdR g N F x w' lo (sub64 hi s) mn mx ∧ Only g w w' := by
  obtain ⟨c0, c1, c2, c3, fz⟩ := h.facts
  have f0 := fz (x * 4 + 1)
  have HS := Lib.hid h
  clear h fz
  have G := Lib.hid (show bits .andNot .u64 (hi : Int) (s : Int) = ((sub64 hi s : Nat) : Int) from andNot_u64 hi s h1 h2)
  clear h1 h2
  go_enter Tryd.func48, Tryd.ntmps48
  go_wp2_with fail
  rw [G.out]
  have h5 := HS.out.set1 (sub64 hi s)
  exact bodyPost_end (v := .tuple #[]) (by simp [results, Tryd.results48, go_sem]) rfl ⟨rfl, h5, Only.set _ _ _⟩
set_option maxHeartbeats 2000000 in
theorem atLeast_row (g N : Nat) (F : Nat → BdV) (x : Nat) (lo hi : Nat) (mn mx : Int) (n : Int) (w : World) (h : BdR g N F x w lo hi mn mx) :
    Calls Tryd.prog 49 #[.pointer (some ⟨g, x * 4, none⟩), .int .i64 n] w fun e w' => e = .returned (.tuple #[]) ∧ BdR g N F x w' lo hi (max mn n) mx ∧ Only g w w' := by
  obtain ⟨c0, c1, c2, c3, fz⟩ := h.facts
  have f0 := fz (x * 4 + 2)
  have HS := Lib.hid h
  clear h fz
  by_cases hc : mn < n
  · have e : max mn n = n := by omega
    rw [e]
    clear e
    go_enter Tryd.func49, Tryd.ntmps49
    go_wp2_with fail
    have h5 := HS.out.set2 (n)
    exact bodyPost_end (v := .tuple #[]) (by simp [results, Tryd.results49, go_sem]) rfl ⟨rfl, h5, Only.set _ _ _⟩
  · have e : max mn n = mn := by omega
    rw [e]
    clear e
    go_enter Tryd.func49, Tryd.ntmps49
    go_wp2_with fail
    have h5 := HS.out.set2 (mn)
    exact bodyPost_end (v := .tuple #[]) (by simp [results, Tryd.results49, go_sem]) rfl ⟨rfl, h5, Only.set _ _ _⟩
set_option maxHeartbeats 2000000 in
theorem atMost_row (g N : Nat) (F : Nat → BdV) (x : Nat) (lo hi : Nat) (mn mx : Int) (n : Int) (w : World) (h : BdR g N F x w lo hi mn mx) :
    Calls Tryd.prog 50 #[.pointer (some ⟨g, x * 4, none⟩), .int .i64 n] w fun e w' => e = .returned (.tuple #[]) ∧ BdR g N F x w' lo hi mn (min mx n) ∧ Only g w w' := by
  obtain ⟨c0, c1, c2, c3, fz⟩ := h.facts
  have f0 := fz (x * 4 + 3)
  have HS := Lib.hid h
  clear h fz
  by_cases hc : n < mx
  · have e : min mx n = n := by omega
    rw [e]
    clear e
    go_enter Tryd.func50, Tryd.ntmps50
    go_wp2_with fail
    have h5 := HS.out.set3 (n)
    exact bodyPost_end (v := .tuple #[]) (by simp [results, Tryd.results50, go_sem]) rfl ⟨rfl, h5, Only.set _ _ _⟩
  · have e : min mx n = mx := by omega
    rw [e]
    clear e
    go_enter Tryd.func50, Tryd.ntmps50
    go_wp2_with fail
    have h5 := HS.out.set3 (mx)
    exact bodyPost_end (v := .tuple #[]) (by simp [results, Tryd.results50, go_sem]) rfl ⟨rfl, h5, Only.set _ _ _⟩
end Go.Proofs.YthakhdbakmlooaaDoor

/-
  Bounds in a row brought to normal form: the program's.
-/
namespace Go.Proofs.YthakhdbakmlooaaDoor
set_option linter.unusedSimpArgs false
open Go Go.RowKit Go.Shelf Go.Ev

/-- what normalizing leaves -/
def NormRow (g N : Nat) (F : Nat → BdV) (x : Nat) (lo hi : Nat) (mn mx : Int) (w : World) (e : Ending) (w' : World) : Prop := e = .returned (.bool (okN lo hi mn mx)) ∧ Only g w w' ∧ (okN lo hi mn mx = true → BdR g N F x w' (nlo lo hi mn) (nhi lo hi mn mx) (nmn lo mn) (nmx hi mx))
set_option maxRecDepth 100000 in
set_option maxHeartbeats 8000000 in
theorem normalize_row (g N : Nat) (F : Nat → BdV) (x : Nat) (lo hi : Nat) (mn mx : Int) (w : World) (h : BdR g N F x w lo hi mn mx) (h1 : lo < 18446744073709551616) (h2 : hi < 18446744073709551616) :
    Calls Tryd.prog 37 #[.pointer (some ⟨g, x * 4, none⟩)] w (NormRow g N F x lo hi mn mx w) := by
  obtain ⟨Q, hQ⟩ : ∃ Q, NormRow g N F x lo hi mn mx w = Q := ⟨_, rfl⟩
  rw [hQ]
  have QF := Lib.hid (show ∀ e w', (e = .returned (.bool (decide (sub64 lo hi = 0) && decide (max mn (ones lo) ≤ min mx (ones hi)))) ∧ Only g w w' ∧ ((decide (sub64 lo hi = 0) && decide (max mn (ones lo) ≤ min mx (ones hi))) = true → BdR g N F x w' (if max mn (ones lo) = ones hi then hi else lo) (if max mn (ones lo) = ones hi then hi else if min mx (ones hi) = ones lo then lo else hi) (max mn (ones lo)) (min mx (ones hi)))) → Q e w' from fun e w' k => by rw [← hQ]; exact k)
  have SL := Lib.hid (fun w1 => fsize_any lo w1 h1)
  have SH := Lib.hid (fun w1 => fsize_any hi w1 h2)
  have IN := Lib.hid (fun w1 => isIn_any lo hi w1 h1 h2)
  have LE := Lib.hid (fun w1 (h : BdR g N F x w1 lo hi mn mx) => atLeast_row g N F x lo hi mn mx (ones lo : Nat) w1 h)
  have MO := Lib.hid (fun w1 m (h : BdR g N F x w1 lo hi m mx) => atMost_row g N F x lo hi m mx (ones hi : Nat) w1 h)
  have HB := Lib.hid h
  clear hQ h h1 h2
  go_enter Tryd.func37, Tryd.ntmps37
  go_wp2_with fail
  have FA := Lib.hid (fun (wx : World) (h : BdR g N F x wx lo hi mn mx) => (show (fun (wx : World) => wx.cell? ⟨g, x * 4, none⟩ = some (.int .u64 lo) ∧ wx.cell? ⟨g, x * 4 + 1, none⟩ = some (.int .u64 hi) ∧ wx.cell? ⟨g, x * 4 + 2, none⟩ = some (.int .i64 mn) ∧ wx.cell? ⟨g, x * 4 + 3, none⟩ = some (.int .i64 mx)) wx from ⟨h.facts.1, h.facts.2.1, h.facts.2.2.1, h.facts.2.2.2.1⟩))
  have BV := Lib.hid (show BdR g N F x w.drew lo hi mn mx from HB.out)
  have OV := Lib.hid (show Only g w w.drew from (Only.refl g w).drew)
  have S0 := FA.out _ BV.out
  refine wp_region_held_drew (S := fun (wx : World) => wx.cell? ⟨g, x * 4, none⟩ = some (.int .u64 lo) ∧ wx.cell? ⟨g, x * 4 + 1, none⟩ = some (.int .u64 hi) ∧ wx.cell? ⟨g, x * 4 + 2, none⟩ = some (.int .i64 mn) ∧ wx.cell? ⟨g, x * 4 + 3, none⟩ = some (.int .i64 mx)) (by kernel_rfl) S0 (fun hHeld => ?_)
  generalize w.drew = V at *
  refine wpAnyH_take (i := 0) (oi := ⟨some 5, .move (.tmp 0), 90, "bounds.go:61", #[], none⟩) (v := ?vn1k0) rfl (by kernel_rfl) (by kernel_rfl) (by kernel_rfl) (fun _ _ _ h => h) (Or.inl ⟨by kernel_rfl, ?yn1k0⟩) (by assumption) ?rn1k0
  case yn1k0 => intro w hSw; (try dsimp only at hSw); go_simp; try with_reducible rfl
  try simp only [Act.put, List.setIfInBounds_toArray, List.set_cons_zero, List.set_cons_succ]
  refine wpAnyH_take (i := 1) (oi := ⟨some 6, .nilCheck (.tmp 5), 0, "bounds.go:61", #[⟨0, .data⟩], none⟩) (v := ?vn2k1) rfl (by kernel_rfl) (by kernel_rfl) (by kernel_rfl) (fun _ _ _ h => h) (Or.inl ⟨by kernel_rfl, ?yn2k1⟩) (by assumption) ?rn2k1
  case yn2k1 => intro w hSw; (try dsimp only at hSw); go_simp; try with_reducible rfl
  try simp only [Act.put, List.setIfInBounds_toArray, List.set_cons_zero, List.set_cons_succ]
  refine wpAnyH_take (i := 2) (oi := ⟨some 7, .fieldAddr 53 (.tmp 6) 0, 0, "bounds.go:61", #[⟨1, .data⟩], none⟩) (v := ?vn3k2) rfl (by kernel_rfl) (by kernel_rfl) (by kernel_rfl) (fun _ _ _ h => h) (Or.inl ⟨by kernel_rfl, ?yn3k2⟩) (by assumption) ?rn3k2
  case yn3k2 => intro w hSw; (try dsimp only at hSw); go_simp; try with_reducible rfl
  try simp only [Act.put, List.setIfInBounds_toArray, List.set_cons_zero, List.set_cons_succ]
  refine wpAnyH_take (i := 3) (oi := ⟨some 8, .load 51 (.tmp 7), 51, "bounds.go:61", #[⟨2, .data⟩], none⟩) (v := ?vn4k3) rfl (by kernel_rfl) (by kernel_rfl) (by kernel_rfl) (fun _ _ _ h => h) (Or.inl ⟨by kernel_rfl, ?yn4k3⟩) (by assumption) ?rn4k3
  case yn4k3 => intro w hSw; (try dsimp only at hSw); go_simp; try with_reducible rfl
  try simp only [Act.put, List.setIfInBounds_toArray, List.set_cons_zero, List.set_cons_succ]
  refine wpAnyH_take (i := 5) (oi := ⟨some 10, .move (.tmp 0), 90, "bounds.go:61", #[], none⟩) (v := ?vn5k5) rfl (by kernel_rfl) (by kernel_rfl) (by kernel_rfl) (fun _ _ _ h => h) (Or.inl ⟨by kernel_rfl, ?yn5k5⟩) (by assumption) ?rn5k5
  case yn5k5 => intro w hSw; (try dsimp only at hSw); go_simp; try with_reducible rfl
  try simp only [Act.put, List.setIfInBounds_toArray, List.set_cons_zero, List.set_cons_succ]
  refine wpAnyH_take (i := 6) (oi := ⟨some 11, .nilCheck (.tmp 10), 0, "bounds.go:61", #[⟨5, .data⟩], none⟩) (v := ?vn6k6) rfl (by kernel_rfl) (by kernel_rfl) (by kernel_rfl) (fun _ _ _ h => h) (Or.inl ⟨by kernel_rfl, ?yn6k6⟩) (by assumption) ?rn6k6
  case yn6k6 => intro w hSw; (try dsimp only at hSw); go_simp; try with_reducible rfl
  try simp only [Act.put, List.setIfInBounds_toArray, List.set_cons_zero, List.set_cons_succ]
  refine wpAnyH_take (i := 7) (oi := ⟨some 12, .fieldAddr 53 (.tmp 11) 1, 0, "bounds.go:61", #[⟨6, .data⟩], none⟩) (v := ?vn7k7) rfl (by kernel_rfl) (by kernel_rfl) (by kernel_rfl) (fun _ _ _ h => h) (Or.inl ⟨by kernel_rfl, ?yn7k7⟩) (by assumption) ?rn7k7
  case yn7k7 => intro w hSw; (try dsimp only at hSw); go_simp; try with_reducible rfl
  try simp only [Act.put, List.setIfInBounds_toArray, List.set_cons_zero, List.set_cons_succ]
  refine wpAnyH_take (i := 8) (oi := ⟨some 13, .load 51 (.tmp 12), 51, "bounds.go:61", #[⟨7, .data⟩], none⟩) (v := ?vn8k8) rfl (by kernel_rfl) (by kernel_rfl) (by kernel_rfl) (fun _ _ _ h => h) (Or.inl ⟨by kernel_rfl, ?yn8k8⟩) (by assumption) ?rn8k8
  case yn8k8 => intro w hSw; (try dsimp only at hSw); go_simp; try with_reducible rfl
  try simp only [Act.put, List.setIfInBounds_toArray, List.set_cons_zero, List.set_cons_succ]
  refine wpAnyH_ready (rs := [4]) (by kernel_rfl) (by simp) (AllReadyH.cons (o := ⟨some 9, .call { callee := Callee.value (.func 38), args := #[.tmp 8], argTypes := #[51] }, 3, "bounds.go:61", #[⟨3, .data⟩], none⟩) rfl (fun K hK => ?_) AllReadyH.nil)
  go_simp
  refine (SL.out _).mono ?_
  rintro e x4 ⟨rfl, rfl⟩
  clear hHeld
  refine hK.out _ _ (by assumption) (fun hHeld => ?_)
  clear hK K
  try simp only [Act.put, List.setIfInBounds_toArray, List.set_cons_zero, List.set_cons_succ]
  refine wpAnyH_ready (rs := [9]) (by kernel_rfl) (by simp) (AllReadyH.cons (o := ⟨some 14, .call { callee := Callee.value (.func 38), args := #[.tmp 13], argTypes := #[51] }, 3, "bounds.go:61", #[⟨8, .data⟩, ⟨4, .chain⟩], none⟩) rfl (fun K hK => ?_) AllReadyH.nil)
  go_simp
  refine (SH.out _).mono ?_
  rintro e x9 ⟨rfl, rfl⟩
  clear hHeld
  refine hK.out _ _ (by assumption) (fun hHeld => ?_)
  clear hK K
  try simp only [Act.put, List.setIfInBounds_toArray, List.set_cons_zero, List.set_cons_succ]
  refine wpAnyH_take (i := 10) (oi := ⟨some 3, .assign (.tmp 9), 3, "bounds.go:61", #[⟨4, .data⟩, ⟨9, .chain⟩, ⟨0, .phase⟩, ⟨1, .phase⟩, ⟨2, .phase⟩, ⟨3, .phase⟩, ⟨4, .phase⟩, { on := 5, ground := Ground.textOnly Departure.lateStores }, { on := 6, ground := Ground.textOnly Departure.lateStores }, { on := 7, ground := Ground.textOnly Departure.lateStores }, { on := 8, ground := Ground.textOnly Departure.lateStores }, { on := 9, ground := Ground.textOnly Departure.lateStoresUnsure }], none⟩) (v := ?vn9k10) rfl (by kernel_rfl) (by kernel_rfl) (by kernel_rfl) (fun _ _ _ h => h) (Or.inl ⟨by kernel_rfl, ?yn9k10⟩) (by assumption) ?rn9k10
  case yn9k10 => intro w hSw; (try dsimp only at hSw); go_simp; try with_reducible rfl
  try simp only [Act.put, List.setIfInBounds_toArray, List.set_cons_zero, List.set_cons_succ]
  refine wpAnyH_take (i := 11) (oi := ⟨some 4, .assign (.tmp 14), 3, "bounds.go:61", #[⟨9, .data⟩, ⟨10, .chain⟩, ⟨0, .phase⟩, ⟨1, .phase⟩, ⟨2, .phase⟩, ⟨3, .phase⟩, ⟨4, .phase⟩, ⟨5, .phase⟩, ⟨6, .phase⟩, ⟨7, .phase⟩, ⟨8, .phase⟩, ⟨9, .phase⟩, ⟨10, .phase⟩], none⟩) (v := ?vn10k11) rfl (by kernel_rfl) (by kernel_rfl) (by kernel_rfl) (fun _ _ _ h => h) (Or.inl ⟨by kernel_rfl, ?yn10k11⟩) (by assumption) ?rn10k11
  case yn10k11 => intro w hSw; (try dsimp only at hSw); go_simp; try with_reducible rfl
  try simp only [Act.put, List.setIfInBounds_toArray, List.set_cons_zero, List.set_cons_succ]
  refine wpAnyH_done (by kernel_rfl) ?_ _
  clear S0
  go_wp2_with (first | (go_at_call 49; refine (LE.out _ BV.out).mono ?_; rintro e y1 ⟨rfl, b1, o1⟩; have B1 := Lib.hid b1; have O1 := Lib.hid (OV.out.trans o1); clear b1 o1 LE) | (go_at_call 50; refine (MO.out _ _ B1.out).mono ?_; rintro e y2 ⟨rfl, b2, o2⟩; have B2 := Lib.hid b2; have O2 := Lib.hid (O1.out.trans o2); clear b2 o2 MO))
  clear hHeld BV OV FA SL SH B1 O1 HB
  generalize max mn ((ones lo : Nat) : Int) = M at *
  generalize min mx ((ones hi : Nat) : Int) = X at *
  generalize ones lo = OL at *
  generalize ones hi = OH at *
  generalize decide (sub64 lo hi = 0) = D at *
  have S0 : (fun (wx : World) => wx.cell? ⟨g, x * 4, none⟩ = some (.int .u64 lo) ∧ wx.cell? ⟨g, x * 4 + 1, none⟩ = some (.int .u64 hi) ∧ wx.cell? ⟨g, x * 4 + 2, none⟩ = some (.int .i64 M) ∧ wx.cell? ⟨g, x * 4 + 3, none⟩ = some (.int .i64 X)) y2.drew := ⟨B2.out.facts.1, B2.out.facts.2.1, B2.out.facts.2.2.1, B2.out.facts.2.2.2.1⟩
  have BV := Lib.hid (show BdR g N F x y2.drew lo hi M X from B2.out)
  have OV := Lib.hid (O2.out.drew)
  clear B2 O2
  cases D with
  | false =>
    refine wp_region_held_drew (S := fun (wx : World) => wx.cell? ⟨g, x * 4, none⟩ = some (.int .u64 lo) ∧ wx.cell? ⟨g, x * 4 + 1, none⟩ = some (.int .u64 hi) ∧ wx.cell? ⟨g, x * 4 + 2, none⟩ = some (.int .i64 M) ∧ wx.cell? ⟨g, x * 4 + 3, none⟩ = some (.int .i64 X)) (by kernel_rfl) S0 (fun hHeld => ?_)
    generalize y2.drew = V at *
    refine wpAnyH_take (i := 0) (oi := ⟨some 21, .move (.tmp 0), 90, "bounds.go:64", #[], none⟩) (v := ?vn11k0) rfl (by kernel_rfl) (by kernel_rfl) (by kernel_rfl) (fun _ _ _ h => h) (Or.inl ⟨by kernel_rfl, ?yn11k0⟩) (by assumption) ?rn11k0
    case yn11k0 => intro w hSw; (try dsimp only at hSw); go_simp; try with_reducible rfl
    try simp only [Act.put, List.setIfInBounds_toArray, List.set_cons_zero, List.set_cons_succ]
    refine wpAnyH_take (i := 1) (oi := ⟨some 22, .nilCheck (.tmp 21), 0, "bounds.go:64", #[⟨0, .data⟩], none⟩) (v := ?vn12k1) rfl (by kernel_rfl) (by kernel_rfl) (by kernel_rfl) (fun _ _ _ h => h) (Or.inl ⟨by kernel_rfl, ?yn12k1⟩) (by assumption) ?rn12k1
    case yn12k1 => intro w hSw; (try dsimp only at hSw); go_simp; try with_reducible rfl
    try simp only [Act.put, List.setIfInBounds_toArray, List.set_cons_zero, List.set_cons_succ]
    refine wpAnyH_take (i := 2) (oi := ⟨some 23, .fieldAddr 53 (.tmp 22) 0, 0, "bounds.go:64", #[⟨1, .data⟩], none⟩) (v := ?vn13k2) rfl (by kernel_rfl) (by kernel_rfl) (by kernel_rfl) (fun _ _ _ h => h) (Or.inl ⟨by kernel_rfl, ?yn13k2⟩) (by assumption) ?rn13k2
    case yn13k2 => intro w hSw; (try dsimp only at hSw); go_simp; try with_reducible rfl
    try simp only [Act.put, List.setIfInBounds_toArray, List.set_cons_zero, List.set_cons_succ]
    refine wpAnyH_take (i := 3) (oi := ⟨some 24, .load 51 (.tmp 23), 51, "bounds.go:64", #[⟨2, .data⟩], none⟩) (v := ?vn14k3) rfl (by kernel_rfl) (by kernel_rfl) (by kernel_rfl) (fun _ _ _ h => h) (Or.inl ⟨by kernel_rfl, ?yn14k3⟩) (by assumption) ?rn14k3
    case yn14k3 => intro w hSw; (try dsimp only at hSw); go_simp; try with_reducible rfl
    try simp only [Act.put, List.setIfInBounds_toArray, List.set_cons_zero, List.set_cons_succ]
    refine wpAnyH_take (i := 4) (oi := ⟨some 25, .move (.tmp 0), 90, "bounds.go:64", #[], none⟩) (v := ?vn15k4) rfl (by kernel_rfl) (by kernel_rfl) (by kernel_rfl) (fun _ _ _ h => h) (Or.inl ⟨by kernel_rfl, ?yn15k4⟩) (by assumption) ?rn15k4
    case yn15k4 => intro w hSw; (try dsimp only at hSw); go_simp; try with_reducible rfl
    try simp only [Act.put, List.setIfInBounds_toArray, List.set_cons_zero, List.set_cons_succ]
    refine wpAnyH_take (i := 5) (oi := ⟨some 26, .nilCheck (.tmp 25), 0, "bounds.go:64", #[⟨4, .data⟩], none⟩) (v := ?vn16k5) rfl (by kernel_rfl) (by kernel_rfl) (by kernel_rfl) (fun _ _ _ h => h) (Or.inl ⟨by kernel_rfl, ?yn16k5⟩) (by assumption) ?rn16k5
    case yn16k5 => intro w hSw; (try dsimp only at hSw); go_simp; try with_reducible rfl
    try simp only [Act.put, List.setIfInBounds_toArray, List.set_cons_zero, List.set_cons_succ]
    refine wpAnyH_take (i := 6) (oi := ⟨some 27, .fieldAddr 53 (.tmp 26) 1, 0, "bounds.go:64", #[⟨5, .data⟩], none⟩) (v := ?vn17k6) rfl (by kernel_rfl) (by kernel_rfl) (by kernel_rfl) (fun _ _ _ h => h) (Or.inl ⟨by kernel_rfl, ?yn17k6⟩) (by assumption) ?rn17k6
    case yn17k6 => intro w hSw; (try dsimp only at hSw); go_simp; try with_reducible rfl
    try simp only [Act.put, List.setIfInBounds_toArray, List.set_cons_zero, List.set_cons_succ]
    refine wpAnyH_take (i := 7) (oi := ⟨some 28, .load 51 (.tmp 27), 51, "bounds.go:64", #[⟨6, .data⟩], none⟩) (v := ?vn18k7) rfl (by kernel_rfl) (by kernel_rfl) (by kernel_rfl) (fun _ _ _ h => h) (Or.inl ⟨by kernel_rfl, ?yn18k7⟩) (by assumption) ?rn18k7
    case yn18k7 => intro w hSw; (try dsimp only at hSw); go_simp; try with_reducible rfl
    try simp only [Act.put, List.setIfInBounds_toArray, List.set_cons_zero, List.set_cons_succ]
    refine wpAnyH_ready (rs := [8]) (by kernel_rfl) (by simp) (AllReadyH.cons (o := ⟨some 29, .call { callee := Callee.value (.func 46), args := #[.tmp 24, .tmp 28], argTypes := #[51, 51] }, 4, "bounds.go:64", #[⟨3, .data⟩, ⟨7, .data⟩], none⟩) rfl (fun K hK => ?_) AllReadyH.nil)
    go_simp
    refine (IN.out _).mono ?_
    rintro e x8 ⟨rfl, rfl⟩
    clear hHeld
    refine hK.out _ _ (by assumption) (fun hHeld => ?_)
    clear hK K
    try simp only [Act.put, List.setIfInBounds_toArray, List.set_cons_zero, List.set_cons_succ]
    refine wpAnyH_take (i := 9) (oi := ⟨some 30, .unOp .not 4 (.tmp 29), 4, "bounds.go:64", #[⟨8, .data⟩], none⟩) (v := ?vn19k9) rfl (by kernel_rfl) (by kernel_rfl) (by kernel_rfl) (fun _ _ _ h => h) (Or.inl ⟨by kernel_rfl, ?yn19k9⟩) (by assumption) ?rn19k9
    case yn19k9 => intro w hSw; (try dsimp only at hSw); go_simp; try with_reducible rfl
    try simp only [Act.put, List.setIfInBounds_toArray, List.set_cons_zero, List.set_cons_succ]
    refine wpAnyH_take (i := 10) (oi := ⟨some 31, .move (.tmp 30), 4, "bounds.go:64", #[⟨9, .data⟩, ⟨8, .chain⟩], none⟩) (v := ?vn20k10) rfl (by kernel_rfl) (by kernel_rfl) (by kernel_rfl) (fun _ _ _ h => h) (Or.inl ⟨by kernel_rfl, ?yn20k10⟩) (by assumption) ?rn20k10
    case yn20k10 => intro w hSw; (try dsimp only at hSw); go_simp; try with_reducible rfl
    try simp only [Act.put, List.setIfInBounds_toArray, List.set_cons_zero, List.set_cons_succ]
    refine wpAnyH_take (i := 11) (oi := ⟨some 32, .move (.tmp 0), 90, "bounds.go:64", #[⟨10, .guard⟩], some (10, false)⟩) (v := undef) rfl (by kernel_rfl) (by kernel_rfl) (by kernel_rfl) (fun _ _ _ h => h) (Or.inr ⟨by kernel_rfl, rfl⟩) (by assumption) ?rn21k11
    try simp only [Act.put, List.setIfInBounds_toArray, List.set_cons_zero, List.set_cons_succ]
    refine wpAnyH_take (i := 12) (oi := ⟨some 33, .nilCheck (.tmp 32), 0, "bounds.go:64", #[⟨11, .data⟩, ⟨10, .guard⟩], some (10, false)⟩) (v := undef) rfl (by kernel_rfl) (by kernel_rfl) (by kernel_rfl) (fun _ _ _ h => h) (Or.inr ⟨by kernel_rfl, rfl⟩) (by assumption) ?rn22k12
    try simp only [Act.put, List.setIfInBounds_toArray, List.set_cons_zero, List.set_cons_succ]
    refine wpAnyH_take (i := 13) (oi := ⟨some 34, .fieldAddr 53 (.tmp 33) 2, 0, "bounds.go:64", #[⟨12, .data⟩, ⟨10, .guard⟩], some (10, false)⟩) (v := undef) rfl (by kernel_rfl) (by kernel_rfl) (by kernel_rfl) (fun _ _ _ h => h) (Or.inr ⟨by kernel_rfl, rfl⟩) (by assumption) ?rn23k13
    try simp only [Act.put, List.setIfInBounds_toArray, List.set_cons_zero, List.set_cons_succ]
    refine wpAnyH_take (i := 14) (oi := ⟨some 35, .load 3 (.tmp 34), 3, "bounds.go:64", #[⟨13, .data⟩, ⟨10, .guard⟩], some (10, false)⟩) (v := undef) rfl (by kernel_rfl) (by kernel_rfl) (by kernel_rfl) (fun _ _ _ h => h) (Or.inr ⟨by kernel_rfl, rfl⟩) (by assumption) ?rn24k14
    try simp only [Act.put, List.setIfInBounds_toArray, List.set_cons_zero, List.set_cons_succ]
    refine wpAnyH_take (i := 15) (oi := ⟨some 36, .move (.tmp 0), 90, "bounds.go:64", #[⟨10, .guard⟩], some (10, false)⟩) (v := undef) rfl (by kernel_rfl) (by kernel_rfl) (by kernel_rfl) (fun _ _ _ h => h) (Or.inr ⟨by kernel_rfl, rfl⟩) (by assumption) ?rn25k15
    try simp only [Act.put, List.setIfInBounds_toArray, List.set_cons_zero, List.set_cons_succ]
    refine wpAnyH_take (i := 16) (oi := ⟨some 37, .nilCheck (.tmp 36), 0, "bounds.go:64", #[⟨15, .data⟩, ⟨10, .guard⟩], some (10, false)⟩) (v := undef) rfl (by kernel_rfl) (by kernel_rfl) (by kernel_rfl) (fun _ _ _ h => h) (Or.inr ⟨by kernel_rfl, rfl⟩) (by assumption) ?rn26k16
    try simp only [Act.put, List.setIfInBounds_toArray, List.set_cons_zero, List.set_cons_succ]
    refine wpAnyH_take (i := 17) (oi := ⟨some 38, .fieldAddr 53 (.tmp 37) 3, 0, "bounds.go:64", #[⟨16, .data⟩, ⟨10, .guard⟩], some (10, false)⟩) (v := undef) rfl (by kernel_rfl) (by kernel_rfl) (by kernel_rfl) (fun _ _ _ h => h) (Or.inr ⟨by kernel_rfl, rfl⟩) (by assumption) ?rn27k17
    try simp only [Act.put, List.setIfInBounds_toArray, List.set_cons_zero, List.set_cons_succ]
    refine wpAnyH_take (i := 18) (oi := ⟨some 39, .load 3 (.tmp 38), 3, "bounds.go:64", #[⟨17, .data⟩, ⟨10, .guard⟩], some (10, false)⟩) (v := undef) rfl (by kernel_rfl) (by kernel_rfl) (by kernel_rfl) (fun _ _ _ h => h) (Or.inr ⟨by kernel_rfl, rfl⟩) (by assumption) ?rn28k18
    try simp only [Act.put, List.setIfInBounds_toArray, List.set_cons_zero, List.set_cons_succ]
    refine wpAnyH_take (i := 19) (oi := ⟨some 40, .binOp .gtr 3 (.tmp 35) (.tmp 39) 3, 4, "bounds.go:64", #[⟨14, .data⟩, ⟨18, .data⟩, ⟨10, .guard⟩], some (10, false)⟩) (v := undef) rfl (by kernel_rfl) (by kernel_rfl) (by kernel_rfl) (fun _ _ _ h => h) (Or.inr ⟨by kernel_rfl, rfl⟩) (by assumption) ?rn29k19
    try simp only [Act.put, List.setIfInBounds_toArray, List.set_cons_zero, List.set_cons_succ]
    refine wpAnyH_take (i := 20) (oi := ⟨some 41, .pick (.tmp 31) (.const (Value.bool true)) (.tmp 40), 4, "bounds.go:64", #[⟨10, .data⟩, ⟨19, .data⟩], none⟩) (v := ?vn30k20) rfl (by kernel_rfl) (by kernel_rfl) (by kernel_rfl) (fun _ _ _ h => h) (Or.inl ⟨by kernel_rfl, ?yn30k20⟩) (by assumption) ?rn30k20
    case yn30k20 => intro w hSw; (try dsimp only at hSw); go_simp; try with_reducible rfl
    try simp only [Act.put, List.setIfInBounds_toArray, List.set_cons_zero, List.set_cons_succ]
    refine wpAnyH_done (by kernel_rfl) ?_ _
    go_wp2_with fail
    exact QF.out _ _ ⟨rfl, OV.out, fun h => by cases h⟩
  | true =>
    by_cases hMX : X < M
    · have QF2 := Lib.hid (fun w' (k : Only g w w') => QF.out (.returned (.bool false)) w' ⟨by rw [decide_eq_false (show ¬ M ≤ X by omega)]; rfl, k, fun h => by rw [decide_eq_false (show ¬ M ≤ X by omega)] at h; cases h⟩)
      clear QF
      refine wp_region_held_drew (S := fun (wx : World) => wx.cell? ⟨g, x * 4, none⟩ = some (.int .u64 lo) ∧ wx.cell? ⟨g, x * 4 + 1, none⟩ = some (.int .u64 hi) ∧ wx.cell? ⟨g, x * 4 + 2, none⟩ = some (.int .i64 M) ∧ wx.cell? ⟨g, x * 4 + 3, none⟩ = some (.int .i64 X)) (by kernel_rfl) S0 (fun hHeld => ?_)
      generalize y2.drew = V at *
      refine wpAnyH_take (i := 0) (oi := ⟨some 21, .move (.tmp 0), 90, "bounds.go:64", #[], none⟩) (v := ?vn31k0) rfl (by kernel_rfl) (by kernel_rfl) (by kernel_rfl) (fun _ _ _ h => h) (Or.inl ⟨by kernel_rfl, ?yn31k0⟩) (by assumption) ?rn31k0
      case yn31k0 => intro w hSw; (try dsimp only at hSw); go_simp; try with_reducible rfl
      try simp only [Act.put, List.setIfInBounds_toArray, List.set_cons_zero, List.set_cons_succ]
      refine wpAnyH_take (i := 1) (oi := ⟨some 22, .nilCheck (.tmp 21), 0, "bounds.go:64", #[⟨0, .data⟩], none⟩) (v := ?vn32k1) rfl (by kernel_rfl) (by kernel_rfl) (by kernel_rfl) (fun _ _ _ h => h) (Or.inl ⟨by kernel_rfl, ?yn32k1⟩) (by assumption) ?rn32k1
      case yn32k1 => intro w hSw; (try dsimp only at hSw); go_simp; try with_reducible rfl
      try simp only [Act.put, List.setIfInBounds_toArray, List.set_cons_zero, List.set_cons_succ]
      refine wpAnyH_take (i := 2) (oi := ⟨some 23, .fieldAddr 53 (.tmp 22) 0, 0, "bounds.go:64", #[⟨1, .data⟩], none⟩) (v := ?vn33k2) rfl (by kernel_rfl) (by kernel_rfl) (by kernel_rfl) (fun _ _ _ h => h) (Or.inl ⟨by kernel_rfl, ?yn33k2⟩) (by assumption) ?rn33k2
      case yn33k2 => intro w hSw; (try dsimp only at hSw); go_simp; try with_reducible rfl
      try simp only [Act.put, List.setIfInBounds_toArray, List.set_cons_zero, List.set_cons_succ]
      refine wpAnyH_take (i := 3) (oi := ⟨some 24, .load 51 (.tmp 23), 51, "bounds.go:64", #[⟨2, .data⟩], none⟩) (v := ?vn34k3) rfl (by kernel_rfl) (by kernel_rfl) (by kernel_rfl) (fun _ _ _ h => h) (Or.inl ⟨by kernel_rfl, ?yn34k3⟩) (by assumption) ?rn34k3
      case yn34k3 => intro w hSw; (try dsimp only at hSw); go_simp; try with_reducible rfl
      try simp only [Act.put, List.setIfInBounds_toArray, List.set_cons_zero, List.set_cons_succ]
      refine wpAnyH_take (i := 4) (oi := ⟨some 25, .move (.tmp 0), 90, "bounds.go:64", #[], none⟩) (v := ?vn35k4) rfl (by kernel_rfl) (by kernel_rfl) (by kernel_rfl) (fun _ _ _ h => h) (Or.inl ⟨by kernel_rfl, ?yn35k4⟩) (by assumption) ?rn35k4
      case yn35k4 => intro w hSw; (try dsimp only at hSw); go_simp; try with_reducible rfl
      try simp only [Act.put, List.setIfInBounds_toArray, List.set_cons_zero, List.set_cons_succ]
      refine wpAnyH_take (i := 5) (oi := ⟨some 26, .nilCheck (.tmp 25), 0, "bounds.go:64", #[⟨4, .data⟩], none⟩) (v := ?vn36k5) rfl (by kernel_rfl) (by kernel_rfl) (by kernel_rfl) (fun _ _ _ h => h) (Or.inl ⟨by kernel_rfl, ?yn36k5⟩) (by assumption) ?rn36k5
      case yn36k5 => intro w hSw; (try dsimp only at hSw); go_simp; try with_reducible rfl
      try simp only [Act.put, List.setIfInBounds_toArray, List.set_cons_zero, List.set_cons_succ]
      refine wpAnyH_take (i := 6) (oi := ⟨some 27, .fieldAddr 53 (.tmp 26) 1, 0, "bounds.go:64", #[⟨5, .data⟩], none⟩) (v := ?vn37k6) rfl (by kernel_rfl) (by kernel_rfl) (by kernel_rfl) (fun _ _ _ h => h) (Or.inl ⟨by kernel_rfl, ?yn37k6⟩) (by assumption) ?rn37k6
      case yn37k6 => intro w hSw; (try dsimp only at hSw); go_simp; try with_reducible rfl
      try simp only [Act.put, List.setIfInBounds_toArray, List.set_cons_zero, List.set_cons_succ]
      refine wpAnyH_take (i := 7) (oi := ⟨some 28, .load 51 (.tmp 27), 51, "bounds.go:64", #[⟨6, .data⟩], none⟩) (v := ?vn38k7) rfl (by kernel_rfl) (by kernel_rfl) (by kernel_rfl) (fun _ _ _ h => h) (Or.inl ⟨by kernel_rfl, ?yn38k7⟩) (by assumption) ?rn38k7
      case yn38k7 => intro w hSw; (try dsimp only at hSw); go_simp; try with_reducible rfl
      try simp only [Act.put, List.setIfInBounds_toArray, List.set_cons_zero, List.set_cons_succ]
      refine wpAnyH_ready (rs := [8]) (by kernel_rfl) (by simp) (AllReadyH.cons (o := ⟨some 29, .call { callee := Callee.value (.func 46), args := #[.tmp 24, .tmp 28], argTypes := #[51, 51] }, 4, "bounds.go:64", #[⟨3, .data⟩, ⟨7, .data⟩], none⟩) rfl (fun K hK => ?_) AllReadyH.nil)
      go_simp
      refine (IN.out _).mono ?_
      rintro e x8 ⟨rfl, rfl⟩
      clear hHeld
      refine hK.out _ _ (by assumption) (fun hHeld => ?_)
      clear hK K
      try simp only [Act.put, List.setIfInBounds_toArray, List.set_cons_zero, List.set_cons_succ]
      refine wpAnyH_take (i := 9) (oi := ⟨some 30, .unOp .not 4 (.tmp 29), 4, "bounds.go:64", #[⟨8, .data⟩], none⟩) (v := ?vn39k9) rfl (by kernel_rfl) (by kernel_rfl) (by kernel_rfl) (fun _ _ _ h => h) (Or.inl ⟨by kernel_rfl, ?yn39k9⟩) (by assumption) ?rn39k9
      case yn39k9 => intro w hSw; (try dsimp only at hSw); go_simp; try with_reducible rfl
      try simp only [Act.put, List.setIfInBounds_toArray, List.set_cons_zero, List.set_cons_succ]
      refine wpAnyH_take (i := 10) (oi := ⟨some 31, .move (.tmp 30), 4, "bounds.go:64", #[⟨9, .data⟩, ⟨8, .chain⟩], none⟩) (v := ?vn40k10) rfl (by kernel_rfl) (by kernel_rfl) (by kernel_rfl) (fun _ _ _ h => h) (Or.inl ⟨by kernel_rfl, ?yn40k10⟩) (by assumption) ?rn40k10
      case yn40k10 => intro w hSw; (try dsimp only at hSw); go_simp; try with_reducible rfl
      try simp only [Act.put, List.setIfInBounds_toArray, List.set_cons_zero, List.set_cons_succ]
      refine wpAnyH_take (i := 11) (oi := ⟨some 32, .move (.tmp 0), 90, "bounds.go:64", #[⟨10, .guard⟩], some (10, false)⟩) (v := ?vn41k11) rfl (by kernel_rfl) (by kernel_rfl) (by kernel_rfl) (fun _ _ _ h => h) (Or.inl ⟨by kernel_rfl, ?yn41k11⟩) (by assumption) ?rn41k11
      case yn41k11 => intro w hSw; (try dsimp only at hSw); go_simp; try with_reducible rfl
      try simp only [Act.put, List.setIfInBounds_toArray, List.set_cons_zero, List.set_cons_succ]
      refine wpAnyH_take (i := 12) (oi := ⟨some 33, .nilCheck (.tmp 32), 0, "bounds.go:64", #[⟨11, .data⟩, ⟨10, .guard⟩], some (10, false)⟩) (v := ?vn42k12) rfl (by kernel_rfl) (by kernel_rfl) (by kernel_rfl) (fun _ _ _ h => h) (Or.inl ⟨by kernel_rfl, ?yn42k12⟩) (by assumption) ?rn42k12
      case yn42k12 => intro w hSw; (try dsimp only at hSw); go_simp; try with_reducible rfl
      try simp only [Act.put, List.setIfInBounds_toArray, List.set_cons_zero, List.set_cons_succ]
      refine wpAnyH_take (i := 13) (oi := ⟨some 34, .fieldAddr 53 (.tmp 33) 2, 0, "bounds.go:64", #[⟨12, .data⟩, ⟨10, .guard⟩], some (10, false)⟩) (v := ?vn43k13) rfl (by kernel_rfl) (by kernel_rfl) (by kernel_rfl) (fun _ _ _ h => h) (Or.inl ⟨by kernel_rfl, ?yn43k13⟩) (by assumption) ?rn43k13
      case yn43k13 => intro w hSw; (try dsimp only at hSw); go_simp; try with_reducible rfl
      try simp only [Act.put, List.setIfInBounds_toArray, List.set_cons_zero, List.set_cons_succ]
      refine wpAnyH_take (i := 14) (oi := ⟨some 35, .load 3 (.tmp 34), 3, "bounds.go:64", #[⟨13, .data⟩, ⟨10, .guard⟩], some (10, false)⟩) (v := ?vn44k14) rfl (by kernel_rfl) (by kernel_rfl) (by kernel_rfl) (fun _ _ _ h => h) (Or.inl ⟨by kernel_rfl, ?yn44k14⟩) (by assumption) ?rn44k14
      case yn44k14 => intro w hSw; (try dsimp only at hSw); go_simp; try with_reducible rfl
      try simp only [Act.put, List.setIfInBounds_toArray, List.set_cons_zero, List.set_cons_succ]
      refine wpAnyH_take (i := 15) (oi := ⟨some 36, .move (.tmp 0), 90, "bounds.go:64", #[⟨10, .guard⟩], some (10, false)⟩) (v := ?vn45k15) rfl (by kernel_rfl) (by kernel_rfl) (by kernel_rfl) (fun _ _ _ h => h) (Or.inl ⟨by kernel_rfl, ?yn45k15⟩) (by assumption) ?rn45k15
      case yn45k15 => intro w hSw; (try dsimp only at hSw); go_simp; try with_reducible rfl
      try simp only [Act.put, List.setIfInBounds_toArray, List.set_cons_zero, List.set_cons_succ]
      refine wpAnyH_take (i := 16) (oi := ⟨some 37, .nilCheck (.tmp 36), 0, "bounds.go:64", #[⟨15, .data⟩, ⟨10, .guard⟩], some (10, false)⟩) (v := ?vn46k16) rfl (by kernel_rfl) (by kernel_rfl) (by kernel_rfl) (fun _ _ _ h => h) (Or.inl ⟨by kernel_rfl, ?yn46k16⟩) (by assumption) ?rn46k16
      case yn46k16 => intro w hSw; (try dsimp only at hSw); go_simp; try with_reducible rfl
      try simp only [Act.put, List.setIfInBounds_toArray, List.set_cons_zero, List.set_cons_succ]
      refine wpAnyH_take (i := 17) (oi := ⟨some 38, .fieldAddr 53 (.tmp 37) 3, 0, "bounds.go:64", #[⟨16, .data⟩, ⟨10, .guard⟩], some (10, false)⟩) (v := ?vn47k17) rfl (by kernel_rfl) (by kernel_rfl) (by kernel_rfl) (fun _ _ _ h => h) (Or.inl ⟨by kernel_rfl, ?yn47k17⟩) (by assumption) ?rn47k17
      case yn47k17 => intro w hSw; (try dsimp only at hSw); go_simp; try with_reducible rfl
      try simp only [Act.put, List.setIfInBounds_toArray, List.set_cons_zero, List.set_cons_succ]
      refine wpAnyH_take (i := 18) (oi := ⟨some 39, .load 3 (.tmp 38), 3, "bounds.go:64", #[⟨17, .data⟩, ⟨10, .guard⟩], some (10, false)⟩) (v := ?vn48k18) rfl (by kernel_rfl) (by kernel_rfl) (by kernel_rfl) (fun _ _ _ h => h) (Or.inl ⟨by kernel_rfl, ?yn48k18⟩) (by assumption) ?rn48k18
      case yn48k18 => intro w hSw; (try dsimp only at hSw); go_simp; try with_reducible rfl
      try simp only [Act.put, List.setIfInBounds_toArray, List.set_cons_zero, List.set_cons_succ]
      refine wpAnyH_take (i := 19) (oi := ⟨some 40, .binOp .gtr 3 (.tmp 35) (.tmp 39) 3, 4, "bounds.go:64", #[⟨14, .data⟩, ⟨18, .data⟩, ⟨10, .guard⟩], some (10, false)⟩) (v := ?vn49k19) rfl (by kernel_rfl) (by kernel_rfl) (by kernel_rfl) (fun _ _ _ h => h) (Or.inl ⟨by kernel_rfl, ?yn49k19⟩) (by assumption) ?rn49k19
      case yn49k19 => intro w hSw; (try dsimp only at hSw); go_simp; try with_reducible rfl
      try simp only [Act.put, List.setIfInBounds_toArray, List.set_cons_zero, List.set_cons_succ]
      refine wpAnyH_take (i := 20) (oi := ⟨some 41, .pick (.tmp 31) (.const (Value.bool true)) (.tmp 40), 4, "bounds.go:64", #[⟨10, .data⟩, ⟨19, .data⟩], none⟩) (v := ?vn50k20) rfl (by kernel_rfl) (by kernel_rfl) (by kernel_rfl) (fun _ _ _ h => h) (Or.inl ⟨by kernel_rfl, ?yn50k20⟩) (by assumption) ?rn50k20
      case yn50k20 => intro w hSw; (try dsimp only at hSw); go_simp; try with_reducible rfl
      try simp only [Act.put, List.setIfInBounds_toArray, List.set_cons_zero, List.set_cons_succ]
      refine wpAnyH_done (by kernel_rfl) ?_ _
      go_wp2_with fail
      exact QF2.out _ OV.out
    · have QF2 := Lib.hid (fun w' (k : Only g w w') (b : BdR g N F x w' (if M = OH then hi else lo) (if M = OH then hi else if X = OL then lo else hi) M X) => QF.out (.returned (.bool true)) w' ⟨by rw [decide_eq_true (show M ≤ X by omega)]; rfl, k, fun _ => b⟩)
      clear QF
      refine wp_region_held_drew (S := fun (wx : World) => wx.cell? ⟨g, x * 4, none⟩ = some (.int .u64 lo) ∧ wx.cell? ⟨g, x * 4 + 1, none⟩ = some (.int .u64 hi) ∧ wx.cell? ⟨g, x * 4 + 2, none⟩ = some (.int .i64 M) ∧ wx.cell? ⟨g, x * 4 + 3, none⟩ = some (.int .i64 X)) (by kernel_rfl) S0 (fun hHeld => ?_)
      generalize y2.drew = V at *
      refine wpAnyH_take (i := 0) (oi := ⟨some 21, .move (.tmp 0), 90, "bounds.go:64", #[], none⟩) (v := ?vn51k0) rfl (by kernel_rfl) (by kernel_rfl) (by kernel_rfl) (fun _ _ _ h => h) (Or.inl ⟨by kernel_rfl, ?yn51k0⟩) (by assumption) ?rn51k0
      case yn51k0 => intro w hSw; (try dsimp only at hSw); go_simp; try with_reducible rfl
      try simp only [Act.put, List.setIfInBounds_toArray, List.set_cons_zero, List.set_cons_succ]
      refine wpAnyH_take (i := 1) (oi := ⟨some 22, .nilCheck (.tmp 21), 0, "bounds.go:64", #[⟨0, .data⟩], none⟩) (v := ?vn52k1) rfl (by kernel_rfl) (by kernel_rfl) (by kernel_rfl) (fun _ _ _ h => h) (Or.inl ⟨by kernel_rfl, ?yn52k1⟩) (by assumption) ?rn52k1
      case yn52k1 => intro w hSw; (try dsimp only at hSw); go_simp; try with_reducible rfl
      try simp only [Act.put, List.setIfInBounds_toArray, List.set_cons_zero, List.set_cons_succ]
      refine wpAnyH_take (i := 2) (oi := ⟨some 23, .fieldAddr 53 (.tmp 22) 0, 0, "bounds.go:64", #[⟨1, .data⟩], none⟩) (v := ?vn53k2) rfl (by kernel_rfl) (by kernel_rfl) (by kernel_rfl) (fun _ _ _ h => h) (Or.inl ⟨by kernel_rfl, ?yn53k2⟩) (by assumption) ?rn53k2
      case yn53k2 => intro w hSw; (try dsimp only at hSw); go_simp; try with_reducible rfl
      try simp only [Act.put, List.setIfInBounds_toArray, List.set_cons_zero, List.set_cons_succ]
      refine wpAnyH_take (i := 3) (oi := ⟨some 24, .load 51 (.tmp 23), 51, "bounds.go:64", #[⟨2, .data⟩], none⟩) (v := ?vn54k3) rfl (by kernel_rfl) (by kernel_rfl) (by kernel_rfl) (fun _ _ _ h => h) (Or.inl ⟨by kernel_rfl, ?yn54k3⟩) (by assumption) ?rn54k3
      case yn54k3 => intro w hSw; (try dsimp only at hSw); go_simp; try with_reducible rfl
      try simp only [Act.put, List.setIfInBounds_toArray, List.set_cons_zero, List.set_cons_succ]
      refine wpAnyH_take (i := 4) (oi := ⟨some 25, .move (.tmp 0), 90, "bounds.go:64", #[], none⟩) (v := ?vn55k4) rfl (by kernel_rfl) (by kernel_rfl) (by kernel_rfl) (fun _ _ _ h => h) (Or.inl ⟨by kernel_rfl, ?yn55k4⟩) (by assumption) ?rn55k4
      case yn55k4 => intro w hSw; (try dsimp only at hSw); go_simp; try with_reducible rfl
      try simp only [Act.put, List.setIfInBounds_toArray, List.set_cons_zero, List.set_cons_succ]
      refine wpAnyH_take (i := 5) (oi := ⟨some 26, .nilCheck (.tmp 25), 0, "bounds.go:64", #[⟨4, .data⟩], none⟩) (v := ?vn56k5) rfl (by kernel_rfl) (by kernel_rfl) (by kernel_rfl) (fun _ _ _ h => h) (Or.inl ⟨by kernel_rfl, ?yn56k5⟩) (by assumption) ?rn56k5
      case yn56k5 => intro w hSw; (try dsimp only at hSw); go_simp; try with_reducible rfl
      try simp only [Act.put, List.setIfInBounds_toArray, List.set_cons_zero, List.set_cons_succ]
      refine wpAnyH_take (i := 6) (oi := ⟨some 27, .fieldAddr 53 (.tmp 26) 1, 0, "bounds.go:64", #[⟨5, .data⟩], none⟩) (v := ?vn57k6) rfl (by kernel_rfl) (by kernel_rfl) (by kernel_rfl) (fun _ _ _ h => h) (Or.inl ⟨by kernel_rfl, ?yn57k6⟩) (by assumption) ?rn57k6
      case yn57k6 => intro w hSw; (try dsimp only at hSw); go_simp; try with_reducible rfl
      try simp only [Act.put, List.setIfInBounds_toArray, List.set_cons_zero, List.set_cons_succ]
      refine wpAnyH_take (i := 7) (oi := ⟨some 28, .load 51 (.tmp 27), 51, "bounds.go:64", #[⟨6, .data⟩], none⟩) (v := ?vn58k7) rfl (by kernel_rfl) (by kernel_rfl) (by kernel_rfl) (fun _ _ _ h => h) (Or.inl ⟨by kernel_rfl, ?yn58k7⟩) (by assumption) ?rn58k7
      case yn58k7 => intro w hSw; (try dsimp only at hSw); go_simp; try with_reducible rfl
      try simp only [Act.put, List.setIfInBounds_toArray, List.set_cons_zero, List.set_cons_succ]
      refine wpAnyH_ready (rs := [8]) (by kernel_rfl) (by simp) (AllReadyH.cons (o := ⟨some 29, .call { callee := Callee.value (.func 46), args := #[.tmp 24, .tmp 28], argTypes := #[51, 51] }, 4, "bounds.go:64", #[⟨3, .data⟩, ⟨7, .data⟩], none⟩) rfl (fun K hK => ?_) AllReadyH.nil)
      go_simp
      refine (IN.out _).mono ?_
      rintro e x8 ⟨rfl, rfl⟩
      clear hHeld
      refine hK.out _ _ (by assumption) (fun hHeld => ?_)
      clear hK K
      try simp only [Act.put, List.setIfInBounds_toArray, List.set_cons_zero, List.set_cons_succ]
      refine wpAnyH_take (i := 9) (oi := ⟨some 30, .unOp .not 4 (.tmp 29), 4, "bounds.go:64", #[⟨8, .data⟩], none⟩) (v := ?vn59k9) rfl (by kernel_rfl) (by kernel_rfl) (by kernel_rfl) (fun _ _ _ h => h) (Or.inl ⟨by kernel_rfl, ?yn59k9⟩) (by assumption) ?rn59k9
      case yn59k9 => intro w hSw; (try dsimp only at hSw); go_simp; try with_reducible rfl
      try simp only [Act.put, List.setIfInBounds_toArray, List.set_cons_zero, List.set_cons_succ]
      refine wpAnyH_take (i := 10) (oi := ⟨some 31, .move (.tmp 30), 4, "bounds.go:64", #[⟨9, .data⟩, ⟨8, .chain⟩], none⟩) (v := ?vn60k10) rfl (by kernel_rfl) (by kernel_rfl) (by kernel_rfl) (fun _ _ _ h => h) (Or.inl ⟨by kernel_rfl, ?yn60k10⟩) (by assumption) ?rn60k10
      case yn60k10 => intro w hSw; (try dsimp only at hSw); go_simp; try with_reducible rfl
      try simp only [Act.put, List.setIfInBounds_toArray, List.set_cons_zero, List.set_cons_succ]
      refine wpAnyH_take (i := 11) (oi := ⟨some 32, .move (.tmp 0), 90, "bounds.go:64", #[⟨10, .guard⟩], some (10, false)⟩) (v := ?vn61k11) rfl (by kernel_rfl) (by kernel_rfl) (by kernel_rfl) (fun _ _ _ h => h) (Or.inl ⟨by kernel_rfl, ?yn61k11⟩) (by assumption) ?rn61k11
      case yn61k11 => intro w hSw; (try dsimp only at hSw); go_simp; try with_reducible rfl
      try simp only [Act.put, List.setIfInBounds_toArray, List.set_cons_zero, List.set_cons_succ]
      refine wpAnyH_take (i := 12) (oi := ⟨some 33, .nilCheck (.tmp 32), 0, "bounds.go:64", #[⟨11, .data⟩, ⟨10, .guard⟩], some (10, false)⟩) (v := ?vn62k12) rfl (by kernel_rfl) (by kernel_rfl) (by kernel_rfl) (fun _ _ _ h => h) (Or.inl ⟨by kernel_rfl, ?yn62k12⟩) (by assumption) ?rn62k12
      case yn62k12 => intro w hSw; (try dsimp only at hSw); go_simp; try with_reducible rfl
      try simp only [Act.put, List.setIfInBounds_toArray, List.set_cons_zero, List.set_cons_succ]
      refine wpAnyH_take (i := 13) (oi := ⟨some 34, .fieldAddr 53 (.tmp 33) 2, 0, "bounds.go:64", #[⟨12, .data⟩, ⟨10, .guard⟩], some (10, false)⟩) (v := ?vn63k13) rfl (by kernel_rfl) (by kernel_rfl) (by kernel_rfl) (fun _ _ _ h => h) (Or.inl ⟨by kernel_rfl, ?yn63k13⟩) (by assumption) ?rn63k13
      case yn63k13 => intro w hSw; (try dsimp only at hSw); go_simp; try with_reducible rfl
      try simp only [Act.put, List.setIfInBounds_toArray, List.set_cons_zero, List.set_cons_succ]
      refine wpAnyH_take (i := 14) (oi := ⟨some 35, .load 3 (.tmp 34), 3, "bounds.go:64", #[⟨13, .data⟩, ⟨10, .guard⟩], some (10, false)⟩) (v := ?vn64k14) rfl (by kernel_rfl) (by kernel_rfl) (by kernel_rfl) (fun _ _ _ h => h) (Or.inl ⟨by kernel_rfl, ?yn64k14⟩) (by assumption) ?rn64k14
      case yn64k14 => intro w hSw; (try dsimp only at hSw); go_simp; try with_reducible rfl
      try simp only [Act.put, List.setIfInBounds_toArray, List.set_cons_zero, List.set_cons_succ]
      refine wpAnyH_take (i := 15) (oi := ⟨some 36, .move (.tmp 0), 90, "bounds.go:64", #[⟨10, .guard⟩], some (10, false)⟩) (v := ?vn65k15) rfl (by kernel_rfl) (by kernel_rfl) (by kernel_rfl) (fun _ _ _ h => h) (Or.inl ⟨by kernel_rfl, ?yn65k15⟩) (by assumption) ?rn65k15
      case yn65k15 => intro w hSw; (try dsimp only at hSw); go_simp; try with_reducible rfl
      try simp only [Act.put, List.setIfInBounds_toArray, List.set_cons_zero, List.set_cons_succ]
      refine wpAnyH_take (i := 16) (oi := ⟨some 37, .nilCheck (.tmp 36), 0, "bounds.go:64", #[⟨15, .data⟩, ⟨10, .guard⟩], some (10, false)⟩) (v := ?vn66k16) rfl (by kernel_rfl) (by kernel_rfl) (by kernel_rfl) (fun _ _ _ h => h) (Or.inl ⟨by kernel_rfl, ?yn66k16⟩) (by assumption) ?rn66k16
      case yn66k16 => intro w hSw; (try dsimp only at hSw); go_simp; try with_reducible rfl
      try simp only [Act.put, List.setIfInBounds_toArray, List.set_cons_zero, List.set_cons_succ]
      refine wpAnyH_take (i := 17) (oi := ⟨some 38, .fieldAddr 53 (.tmp 37) 3, 0, "bounds.go:64", #[⟨16, .data⟩, ⟨10, .guard⟩], some (10, false)⟩) (v := ?vn67k17) rfl (by kernel_rfl) (by kernel_rfl) (by kernel_rfl) (fun _ _ _ h => h) (Or.inl ⟨by kernel_rfl, ?yn67k17⟩) (by assumption) ?rn67k17
      case yn67k17 => intro w hSw; (try dsimp only at hSw); go_simp; try with_reducible rfl
      try simp only [Act.put, List.setIfInBounds_toArray, List.set_cons_zero, List.set_cons_succ]
      refine wpAnyH_take (i := 18) (oi := ⟨some 39, .load 3 (.tmp 38), 3, "bounds.go:64", #[⟨17, .data⟩, ⟨10, .guard⟩], some (10, false)⟩) (v := ?vn68k18) rfl (by kernel_rfl) (by kernel_rfl) (by kernel_rfl) (fun _ _ _ h => h) (Or.inl ⟨by kernel_rfl, ?yn68k18⟩) (by assumption) ?rn68k18
      case yn68k18 => intro w hSw; (try dsimp only at hSw); go_simp; try with_reducible rfl
      try simp only [Act.put, List.setIfInBounds_toArray, List.set_cons_zero, List.set_cons_succ]
      refine wpAnyH_take (i := 19) (oi := ⟨some 40, .binOp .gtr 3 (.tmp 35) (.tmp 39) 3, 4, "bounds.go:64", #[⟨14, .data⟩, ⟨18, .data⟩, ⟨10, .guard⟩], some (10, false)⟩) (v := ?vn69k19) rfl (by kernel_rfl) (by kernel_rfl) (by kernel_rfl) (fun _ _ _ h => h) (Or.inl ⟨by kernel_rfl, ?yn69k19⟩) (by assumption) ?rn69k19
      case yn69k19 => intro w hSw; (try dsimp only at hSw); go_simp; try with_reducible rfl
      try simp only [Act.put, List.setIfInBounds_toArray, List.set_cons_zero, List.set_cons_succ]
      refine wpAnyH_take (i := 20) (oi := ⟨some 41, .pick (.tmp 31) (.const (Value.bool true)) (.tmp 40), 4, "bounds.go:64", #[⟨10, .data⟩, ⟨19, .data⟩], none⟩) (v := ?vn70k20) rfl (by kernel_rfl) (by kernel_rfl) (by kernel_rfl) (fun _ _ _ h => h) (Or.inl ⟨by kernel_rfl, ?yn70k20⟩) (by assumption) ?rn70k20
      case yn70k20 => intro w hSw; (try dsimp only at hSw); go_simp; try with_reducible rfl
      try simp only [Act.put, List.setIfInBounds_toArray, List.set_cons_zero, List.set_cons_succ]
      refine wpAnyH_done (by kernel_rfl) ?_ _
      obtain ⟨d0, d1, d2, d3, fz⟩ := BV.out.facts
      have f0 := fz (x * 4)
      have f1 := fz (x * 4 + 1)
      clear fz hHeld S0
      by_cases hA : M = OH
      · have e1 : (M == (OH : Int)) = true := by simpa using hA
        have QF3 := Lib.hid (fun w' (k : Only g w w') (b : BdR g N F x w' hi hi M X) => QF2.out w' k (by rw [if_pos hA, if_pos hA]; exact b))
        clear QF2 hA
        go_wp2_with fail
        exact QF3.out _ (OV.out.trans (Only.set _ _ _)) (BV.out.set0 hi)
      · have e1 : (M == (OH : Int)) = false := by simpa using hA
        by_cases hB : X = OL
        · have e2 : (X == (OL : Int)) = true := by simpa using hB
          have QF3 := Lib.hid (fun w' (k : Only g w w') (b : BdR g N F x w' lo lo M X) => QF2.out w' k (by rw [if_neg hA, if_neg hA, if_pos hB]; exact b))
          clear QF2 hA hB
          go_wp2_with fail
          exact QF3.out _ (OV.out.trans (Only.set _ _ _)) (BV.out.set1 lo)
        · have e2 : (X == (OL : Int)) = false := by simpa using hB
          have QF3 := Lib.hid (fun w' (k : Only g w w') (b : BdR g N F x w' lo hi M X) => QF2.out w' k (by rw [if_neg hA, if_neg hA, if_neg hB]; exact b))
          clear QF2 hA hB
          go_wp2_with fail
          exact QF3.out _ OV.out BV.out
end Go.Proofs.YthakhdbakmlooaaDoor
