/-
  Rows of numbers of one's own, cell by cell.
-/
import Derived.Laws.IdiomCopy
import Derived.Test.YthakhdbakmlooaaDoorKaA
import Derived.Maps.AppendAt
import Derived.Lib.SliceRun
import Derived.Deep.MidRow
import Derived.Deep.Slices
namespace Go.Proofs.YthakhdbakmlooaaDoor
open Go Go.RowKit Go.Ev

theorem cellLt {w : World} {p : Addr} {v : Value} (h : w.cell? p = some v) : p.block < w.heap.size := by
  rcases Nat.lt_or_ge p.block w.heap.size with h' | h'
  · exact h'
  · simp [World.cell?, Array.getElem?_eq_none h'] at h
/-- numbers in a block's cells, which may be written -/
def RowAt (w : World) (g : Nat) (xs : List Int) : Prop := ∀ j (h : j < xs.length), w.cell? ⟨g, j, none⟩ = some (.int .i64 xs[j]) ∧ w.frozen? ⟨g, j, none⟩ = false
theorem RowAt.lt {w : World} {g : Nat} {xs : List Int} (h : RowAt w g xs) {k : Nat} (hk : k < xs.length) : g < w.heap.size := cellLt (p := ⟨g, k, none⟩) (h k hk).1
theorem RowAt.below {w w' : World} {g n₀ : Nat} {xs : List Int} (h : RowAt w g xs) (hb : Below n₀ w w') (hg : g < n₀) : RowAt w' g xs := fun j hj => ⟨(hb.cell (p := ⟨g, j, none⟩) hg).trans (h j hj).1, (hb.frozen (p := ⟨g, j, none⟩) hg).trans (h j hj).2⟩
theorem RowAt.take {w : World} {g : Nat} {xs : List Int} (h : RowAt w g xs) (k : Nat) : RowAt w g (xs.take k) := fun j hj => by
  have hj' : j < xs.length := by simp at hj; omega
  rw [List.getElem_take]
  exact h j hj'
theorem RowAt.set {w : World} {g : Nat} {xs : List Int} (h : RowAt w g xs) {i : Nat} (hi : i < xs.length) (v : Int) : RowAt (w.setCell ⟨g, i, none⟩ (.int .i64 v)) g (xs.set i v) := fun j hj => by
  have hj' : j < xs.length := by simpa using hj
  refine ⟨?_, by rw [World.frozen?_setCell]; exact (h j hj').2⟩
  by_cases e : i = j
  · subst e
    rw [World.cell?_setCell_same _ _ _ (h i hi).1]
    simp
  · rw [World.cell?_setCell_other _ _ _ _ (fun h => e (by injection h)), (h j hj').1, List.getElem_set_ne e]
theorem below_cells {B b : Nat} {a : World} (hb : B ≤ b) : ∀ (vs : List Value) (o : Nat) (w : World), Below B a w → Below B a (w.setCells b o vs)
  | [], _, _, h => h
  | v :: r, o, _, h => below_cells hb r (o + 1) _ (h.setCell (p := ⟨b, o, none⟩) hb v)
theorem RowAt.cleared {w : World} {g : Nat} {xs : List Int} (h : RowAt w g xs) (p : Nat) (vs : List Value) : RowAt (w.setCells g p vs) g (xs.take p) := fun j hj => by
  have hj' : j < p ∧ j < xs.length := by simp at hj; omega
  rw [World.frozen?_setCells, World.cell?_setCells_out g vs p w ⟨g, j, none⟩ (fun _ _ => .inl hj'.1), List.getElem_take]
  exact h j hj'.2
theorem set_take {L : List Int} {p : Nat} {x : Int} (h : p < L.length) : (L.set p x).take (p + 1) = L.take p ++ [x] := by
  rw [List.take_succ_eq_append_getElem (by simpa using h), List.take_set_of_le (Nat.le_refl _)]
  simp
/-- what a list is with some struck: a row of one's own -/
def KeptOk (ks : List Int) (base : Nat) (w : World) (e : Ending) (w' : World) : Prop := ∃ A cap, e = .returned (.slice A ks.length cap) ∧ (0 < ks.length → ∃ g, A = some ⟨g, 0, none⟩ ∧ base ≤ g ∧ RowAt w' g ks) ∧ Below base w w'
theorem KeptOk.shape {ks : List Int} {base : Nat} {w : World} {e : Ending} {w' : World} (h : KeptOk ks base w e w') : ∃ A cap, e = .returned (.slice A ks.length cap) ∧ KeptOk ks base w (.returned (.slice A ks.length cap)) w' := by
  obtain ⟨A, cap, rfl, h2⟩ := h
  exact ⟨A, cap, rfl, A, cap, rfl, h2⟩
end Go.Proofs.YthakhdbakmlooaaDoor

/-
  A list copied.
-/
namespace Go.Proofs.YthakhdbakmlooaaDoor
open Go Go.RowKit Go.Ev

/-- a copy: a row of one's own -/
def CloneOk (xs : List Int) (w : World) (e : Ending) (w' : World) : Prop := ∃ A cap, e = .returned (.slice A xs.length cap) ∧ xs.length ≤ cap ∧ (0 < xs.length → ∃ g, A = some ⟨g, 0, none⟩ ∧ w.heap.size ≤ g ∧ RowAt w' g xs) ∧ Below w.heap.size w w'
theorem rowAt_of_owns {W : World} {base n cap : Nat} {G : Option Addr} {xs : List Int} (h : W.ownsRow base 3 1 (.slice G xs.length cap) n (xs.map (Value.int .i64))) (hp : 0 < xs.length) : ∃ g, G = some ⟨g, 0, none⟩ ∧ base ≤ g ∧ RowAt W g xs := by
  obtain ⟨h1, h2⟩ := h
  rcases h2 with ⟨hv, _⟩ | ⟨g', cap', cur, hv, hb, hg, hc, hm, hs, ht⟩
  · simp only [Value.slice.injEq] at hv; omega
  · cases hv
    refine ⟨g', rfl, hb, fun j hj => ⟨?_, by simp [World.frozen?, hg]⟩⟩
    have : (cur.toList.take (xs.length * 1))[j]? = some (.int .i64 xs[j]) := by rw [ht]; simp [List.getElem?_eq_getElem hj]
    rw [List.getElem?_take] at this
    split at this
    · simp only [World.cell?, hg]; simpa using this
    · cases this
theorem own_empty (w : World) : (w.alloc (.cells #[] 3)).ownsRow w.heap.size 3 1 (.slice (some ⟨w.heap.size, 0, none⟩) 0 0) 0 [] :=
  ⟨rfl, .inr ⟨w.heap.size, 0, #[], rfl, Nat.le_refl _, heap_alloc_new _ _, Nat.le_refl _, by decide, rfl, rfl⟩⟩
set_option maxRecDepth 100000 in
set_option maxHeartbeats 4000000 in
theorem clone_any (xs : List Int) (A : Option Addr) (c : Nat) (w : World) (ha : Ints w A xs) :
    Calls Tryd.prog 73 #[.slice A xs.length c] w (CloneOk xs w) := by
  obtain ⟨i0, hi, hz0, hz1, hz2⟩ := info_parts infoI
  have hl := ha.1
  have HA := Lib.hid ha.2.2
  clear ha
  cases A with
  | none =>
    have h0 : xs.length = 0 := by
      rcases Nat.eq_zero_or_pos xs.length with h | h
      · exact h
      · obtain ⟨b, off, e, _⟩ := HA.out h; cases e
    obtain rfl : xs = [] := List.eq_nil_of_length_eq_zero h0
    clear HA h0 hl
    have hk : CloneOk [] w (.returned (.slice none 0 0)) w := ⟨none, 0, rfl, Nat.le_refl _, fun h => absurd h (by simp), Below.refl _ _⟩
    have HK := Lib.hid hk
    clear hk
    generalize CloneOk [] w = Q at *
    have q1 : ∀ w, (binOp .eql 22 (.slice none 0 c) (.slice none 0 0)).run Tryd.prog w = .ok (.bool true) w := fun w => Lib.run_eql_slice_nil (P := Tryd.prog) w 22 3 none 0 c 0 0 Tryd.underlying22
    go_enter Tryd.func73, Tryd.ntmps73
    go_wp2_with fail
    exact HK.out
  | some a =>
    obtain ⟨Q, hQ⟩ : ∃ Q, CloneOk xs w = Q := ⟨_, rfl⟩
    rw [hQ]
    have HQ := Lib.hid hQ
    clear hQ
    have q1 : ∀ w, (binOp .eql 22 (.slice (some a) xs.length c) (.slice none 0 0)).run Tryd.prog w = .ok (.bool false) w := fun w => Lib.run_eql_slice_nil (P := Tryd.prog) w 22 3 (some a) xs.length c 0 0 Tryd.underlying22
    go_enter Tryd.func73, Tryd.ntmps73
    repeat ((fail_if_success at_builtin); go_step)
    at_builtin
    refine wpList_append_own_at _ rfl _ _ 22 rfl w.heap.size 3 i0 (.int .i64 0) 1 8 Tryd.underlying22 hi hz0 hz1 hz2 rfl (by decide) _ 0 [] rfl (own_empty w) a xs.length c (xs.map (Value.int .i64)) rfl (by simp) ?c1 ?c2 ?c3 ?c4 ?c5 ?_
    case c1 =>
      intro j u hj
      obtain ⟨hjl, he⟩ := List.getElem?_eq_some_iff.1 hj
      have hjx : j < xs.length := by simpa using hjl
      obtain ⟨b, off, e, hb, hc⟩ := HA.out (by omega)
      injection e with e
      subst e
      rw [Addr.add_mid]
      have c0 : (w.alloc (.cells #[] 3)).cell? ⟨b, off + j, none⟩ = w.cell? ⟨b, off + j, none⟩ := World.cell?_alloc_lt _ _ _ hb
      rw [c0, hc j hjx, ← he]
      simp
    case c2 =>
      intro u hu
      obtain ⟨y, _, rfl⟩ := List.mem_map.1 hu
      rfl
    case c3 => unfold maxLen; omega
    case c4 => omega
    case c5 => simp
    intro v' w2 hown hgrow hnil _
    rw [List.nil_append, Nat.zero_add] at hown
    obtain ⟨G, cap, hv, hlc⟩ : ∃ G cap, v' = .slice G xs.length cap ∧ xs.length ≤ cap := by
      rcases hown.2 with ⟨h0, _⟩ | ⟨g, cap, cur, h0, _, _, h1, _⟩
      · rw [hnil] at h0; cases h0.1
      · exact ⟨_, cap, h0, h1⟩
    subst hv
    have hk : CloneOk xs w (.returned (.slice G xs.length cap)) w2 := ⟨G, cap, rfl, hlc, fun h0 => rowAt_of_owns hown h0, ((Below.refl _ w).alloc (Nat.le_refl _) _).grown hgrow (by simp) (fun k e => by cases e; exact Nat.le_refl _)⟩
    rw [HQ.out] at hk
    have HK := Lib.hid hk
    clear hk hown hgrow hnil HA HQ
    go_wp2_with fail
    exact HK.out
end Go.Proofs.YthakhdbakmlooaaDoor

/-
  Reading a row that a call has made; slices.Equal.
-/
namespace Go.Proofs.YthakhdbakmlooaaDoor
set_option linter.unusedSimpArgs false
open Go Go.RowKit Go.Ev

theorem ints_of_rowAt {w : World} {A : Option Addr} {xs : List Int} {base : Nat} (hl : xs.length ≤ 1000000) (hr : ∀ x ∈ xs, -9223372036854775808 ≤ x ∧ x ≤ 9223372036854775807) (h : 0 < xs.length → ∃ g, A = some ⟨g, 0, none⟩ ∧ base ≤ g ∧ RowAt w g xs) : Ints w A xs :=
  ⟨hl, hr, fun hp => by
    obtain ⟨g, e, _, hr⟩ := h hp
    exact ⟨g, 0, e, hr.lt hp, fun i hi => by rw [Nat.zero_add]; exact (hr i hi).1⟩⟩
set_option maxRecDepth 100000 in
set_option maxHeartbeats 2000000 in
theorem equal_any (xs ys : List Int) (A B : Option Addr) (c1 c2 : Nat) (w : World) (ha : Ints w A xs) (hb : Ints w B ys) :
    Calls Tryd.prog 44 #[.slice A xs.length c1, .slice B ys.length c2] w fun e w' => e = .returned (.bool (decide (xs = ys))) ∧ Below w.heap.size w w' := by
  have hlx := ha.1
  have hly := hb.1
  have HA := Lib.hid ha.2.2
  have HB := Lib.hid hb.2.2
  clear ha hb
  by_cases hne : xs.length = ys.length
  · obtain ⟨R, hR⟩ : ∃ R, decide (xs = ys) = R := ⟨_, rfl⟩
    rw [hR]
    have HR := Lib.hid hR
    clear hR
    obtain ⟨n, hn⟩ : ∃ n, ys.length = n := ⟨_, rfl⟩
    rw [hn] at hne hly
    simp only [hn, hne]
    have HN := Lib.hid (And.intro hne hn)
    clear hn hne
    go_enter Tryd.func44, Tryd.ntmps44
    go_wp2_with fail
    go_loopw [5, 13] (fun _ i wr => ∃ k : Nat, k ≤ n ∧ i = .int .i64 k ∧ xs.take k = ys.take k ∧ Below w.heap.size w wr) (fun _ i _ => n - (intOf i).toNat)
    case atStart => exact ⟨0, Nat.zero_le _, rfl, rfl, Below.refl _ _⟩
    case round =>
      obtain ⟨k, hk, rfl, ht, hbw⟩ := hrel
      have HT := Lib.hid ht
      have HBW := Lib.hid hbw
      clear ht hbw
      by_cases hlt : k < n
      · have hkx : k < xs.length := by rw [HN.out.1]; exact hlt
        have hky : k < ys.length := by rw [HN.out.2]; exact hlt
        obtain ⟨b1, o1, rfl, hb1', g1⟩ := HA.out (by omega)
        obtain ⟨b2, o2, rfl, hb2', g2⟩ := HB.out (by omega)
        have x1 := (HBW.out.cell (p := ⟨b1, o1 + k, none⟩) hb1').trans (g1 k hkx)
        have x2 := (HBW.out.cell (p := ⟨b2, o2 + k, none⟩) hb2').trans (g2 k hky)
        have T1 := Lib.hid (show xs.take (k + 1) = xs.take k ++ [xs[k]] from List.take_succ_eq_append_getElem hkx)
        have T2 := Lib.hid (show ys.take (k + 1) = ys.take k ++ [ys[k]] from List.take_succ_eq_append_getElem hky)
        have z1 : (k : Int) < (n : Int) := by omega
        have z2 : (0 : Int) ≤ (k : Int) := by omega
        have HE := Lib.hid (show xs[k] ≠ ys[k] → decide (xs = ys) = false from fun h => decide_eq_false fun e => h (by subst e; rfl))
        clear g1 g2 HA HB
        generalize xs[k] = p at *
        generalize ys[k] = q at *
        clear hkx hky
        by_cases hpq : p = q
        · have y1 : (p != q) = false := by simpa using hpq
          have HP := Lib.hid hpq
          clear hpq
          go_wp2_with fail
          go_quiet (fail)
          go_wp2_with fail
          go_roundw
          case rel => exact ⟨k + 1, by omega, by go_num, by rw [T1.out, T2.out, HT.out, HP.out], HBW.out.trans ⟨rfl, rfl, rfl, Nat.le_refl _, fun _ _ => rfl⟩⟩
          case measure => simp [intOf]; omega
        · have y1 : (p != q) = true := by simpa using hpq
          have HP := Lib.hid (show R = false by rw [← HR.out]; exact HE.out hpq)
          clear hpq
          go_wp2_with fail
          go_quiet (fail)
          go_wp2_with fail
          go_ret
          exact ⟨by rw [HP.out]; rfl, HBW.out.trans ⟨rfl, rfl, rfl, Nat.le_refl _, fun _ _ => rfl⟩⟩
      · obtain rfl : k = n := by omega
        have HP := Lib.hid (show R = true by
          have h := HT.out
          rw [List.take_of_length_le (by rw [HN.out.1]; exact Nat.le_refl _), List.take_of_length_le (by rw [HN.out.2]; exact Nat.le_refl _)] at h
          rw [← HR.out]; exact decide_eq_true h)
        clear HA HB
        go_wp2_with fail
        go_ret
        exact ⟨by rw [HP.out]; rfl, HBW.out⟩
  · have e : decide (xs = ys) = false := decide_eq_false fun h => hne (by rw [h])
    rw [e]
    have hb1 : ((xs.length : Int) != (ys.length : Int)) = true := by simp; omega
    clear HA HB e
    generalize xs.length = n1 at *
    generalize ys.length = n2 at *
    go_enter Tryd.func44, Tryd.ntmps44
    go_wp2_with fail
    go_ret
    exact ⟨rfl, Below.refl _ _⟩
end Go.Proofs.YthakhdbakmlooaaDoor
