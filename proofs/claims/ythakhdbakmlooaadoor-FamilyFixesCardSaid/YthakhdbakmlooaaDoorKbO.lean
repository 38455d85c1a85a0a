/-
  The law's own tests over slices: light, lean.
-/
import Derived.Test.YthakhdbakmlooaaDoorKbM
import Derived.Laws.IdiomCopy
import Derived.Test.YthakhdbakmlooaaDoorKbC
import Derived.Maps.AppendAt
import Derived.Lib.SliceRun
import Derived.Deep.MidRow
import Derived.Deep.Slices
namespace Go.Proofs.YthakhdbakmlooaaDoor
set_option linter.unusedSimpArgs false
set_option linter.unusedVariables false
open Go Go.RowKit Go.Shelf Go.Ev

def FamC (w : World) (b o : Nat) (x : FamV) : Prop := w.cell? ⟨b, o, none⟩ = some (.slice x.A x.lo.length x.c1) ∧ w.cell? ⟨b, o + 1, none⟩ = some (.slice x.B x.hi.length x.c2) ∧ w.cell? ⟨b, o + 2, none⟩ = some (.int .i64 x.mn) ∧ w.cell? ⟨b, o + 3, none⟩ = some (.int .i64 x.mx)
def FamsC (w : World) (A : Option Addr) (fs : List FamV) : Prop := 0 < fs.length → ∃ b o, A = some ⟨b, o, none⟩ ∧ b < w.heap.size ∧ ∀ i (h : i < fs.length), FamC w b (o + i * 4) fs[i]
theorem FamC.over {w w' : World} {b o : Nat} {x : FamV} (h : FamC w b o x) (hb : b < w.heap.size) (k : Below w.heap.size w w') : FamC w' b o x := ⟨(k.cell (p := ⟨b, o, none⟩) hb).trans h.1, (k.cell (p := ⟨b, o + 1, none⟩) hb).trans h.2.1, (k.cell (p := ⟨b, o + 2, none⟩) hb).trans h.2.2.1, (k.cell (p := ⟨b, o + 3, none⟩) hb).trans h.2.2.2⟩
def famLight (x : FamV) : Bool := decide (x.lo.length ≤ 100) && decide (x.hi.length ≤ 100)
set_option maxRecDepth 100000 in
set_option maxHeartbeats 4000000 in
theorem lights_any (fs : List FamV) (A : Option Addr) (c1 : Nat) (w : World) (hn : fs.length ≤ 9223372036854775807) (ha : FamsC w A fs) :
    Calls Tryd.prog 7 #[.slice A fs.length c1] w fun e w' => e = .returned (.bool (fs.all famLight && decide (fs.length ≤ 50))) ∧ Below w.heap.size w w' := by
  have HA := Lib.hid ha
  obtain ⟨R, hR⟩ : ∃ R, (fs.all famLight && decide (fs.length ≤ 50)) = R := ⟨_, rfl⟩
  have RE := Lib.hid hR
  rw [hR]
  clear ha hR
  go_enter Tryd.func7, Tryd.ntmps7
  go_wp2_with fail
  go_loopw [4, 7] (fun _ i wr => ∃ k : Nat, k ≤ fs.length ∧ i = .int .i64 k ∧ R = ((fs.drop k).all famLight && decide (fs.length ≤ 50)) ∧ Below w.heap.size w wr) (fun _ i _ => fs.length - (intOf i).toNat)
  case atStart => exact ⟨0, Nat.zero_le _, rfl, by rw [List.drop_zero]; exact RE.out.symm, Below.refl _ _⟩
  case round =>
    obtain ⟨k, hk, rfl, hd, ho⟩ := hrel
    have HD := Lib.hid hd
    have HO := Lib.hid ho
    clear hd ho
    by_cases hlt : k < fs.length
    · obtain ⟨b1, o1, rfl, hb1', g1⟩ := HA.out (by omega)
      have LI := Lib.hid ((g1 k hlt).over hb1' HO.out)
      have DR := Lib.hid (show fs.drop k = fs[k] :: fs.drop (k + 1) from List.drop_eq_getElem_cons hlt)
      have z1 : (k : Int) < (fs.length : Int) := by omega
      have z2 : (0 : Int) ≤ (k : Int) := by omega
      clear g1 HA
      generalize fs[k] = x at *
      obtain ⟨a0, a1, a2, a3⟩ := LI.out
      have BA := Lib.hid (fun o => HO.out.alloc HO.out.size o)
      by_cases q1 : (100 : Int) < (x.lo.length : Int)
      · have HZ := Lib.hid (show R = false from by rw [HD.out, DR.out, List.all_cons, show famLight x = false from by unfold famLight; rw [decide_eq_false (show ¬ x.lo.length ≤ 100 by omega)]; rfl]; simp)
        go_wp2_with fail
        go_ret
        exact ⟨by rw [HZ.out]; rfl, BA.out _⟩
      · by_cases q2 : (100 : Int) < (x.hi.length : Int)
        · have HZ := Lib.hid (show R = false from by rw [HD.out, DR.out, List.all_cons, show famLight x = false from by unfold famLight; rw [decide_eq_false (show ¬ x.hi.length ≤ 100 by omega), Bool.and_false]]; simp)
          go_wp2_with fail
          go_ret
          exact ⟨by rw [HZ.out]; rfl, BA.out _⟩
        · have HZ := Lib.hid (show R = ((fs.drop (k + 1)).all famLight && decide (fs.length ≤ 50)) from by rw [HD.out, DR.out, List.all_cons, show famLight x = true from by unfold famLight; rw [decide_eq_true (show x.lo.length ≤ 100 by omega), decide_eq_true (show x.hi.length ≤ 100 by omega)]; rfl, Bool.true_and])
          have z3 : (k : Int) + 1 ≤ 9223372036854775807 := by omega
          go_wp2_with fail
          go_roundw
          case rel => exact ⟨k + 1, by omega, by go_num, HZ.out, BA.out _⟩
          case measure => simp [intOf]; omega
    · obtain rfl : k = fs.length := by omega
      have HZ := Lib.hid (show R = decide (fs.length ≤ 50) from by rw [HD.out, List.drop_length]; rfl)
      clear HA
      by_cases q1 : fs.length ≤ 50
      · have q2 : (fs.length : Int) ≤ 50 := by omega
        go_wp2_with fail
        go_ret
        exact ⟨by rw [HZ.out, decide_eq_true q1]; rfl, HO.out⟩
      · have q2 : ¬ (fs.length : Int) ≤ 50 := by omega
        go_wp2_with fail
        go_ret
        exact ⟨by rw [HZ.out, decide_eq_false q1]; rfl, HO.out⟩

def RelC (w : World) (b o : Nat) (x : RelV) : Prop := w.cell? ⟨b, o, none⟩ = some (.string x.k) ∧ w.cell? ⟨b, o + 1, none⟩ = some (.slice x.A x.vs.length x.c) ∧ w.cell? ⟨b, o + 2, none⟩ = some (.int .i64 x.N)
def RelsC (w : World) (A : Option Addr) (rs : List RelV) : Prop := 0 < rs.length → ∃ b o, A = some ⟨b, o, none⟩ ∧ b < w.heap.size ∧ ∀ i (h : i < rs.length), RelC w b (o + i * 3) rs[i]
theorem RelC.over {w w' : World} {b o : Nat} {x : RelV} (h : RelC w b o x) (hb : b < w.heap.size) (k : Below w.heap.size w w') : RelC w' b o x := ⟨(k.cell (p := ⟨b, o, none⟩) hb).trans h.1, (k.cell (p := ⟨b, o + 1, none⟩) hb).trans h.2.1, (k.cell (p := ⟨b, o + 2, none⟩) hb).trans h.2.2⟩
def relLean (x : RelV) : Bool := decide (x.vs.length ≤ 10) && decide (x.k.size ≤ 100)
set_option maxRecDepth 100000 in
set_option maxHeartbeats 4000000 in
theorem leans_any (rs : List RelV) (A : Option Addr) (c1 : Nat) (w : World) (hn : rs.length ≤ 9223372036854775807) (ha : RelsC w A rs) :
    Calls Tryd.prog 23 #[.slice A rs.length c1] w fun e w' => e = .returned (.bool (rs.all relLean && decide (rs.length ≤ 110))) ∧ Below w.heap.size w w' := by
  have HA := Lib.hid ha
  obtain ⟨R, hR⟩ : ∃ R, (rs.all relLean && decide (rs.length ≤ 110)) = R := ⟨_, rfl⟩
  have RE := Lib.hid hR
  rw [hR]
  clear ha hR
  go_enter Tryd.func23, Tryd.ntmps23
  go_wp2_with fail
  go_loopw [4, 7] (fun _ i wr => ∃ k : Nat, k ≤ rs.length ∧ i = .int .i64 k ∧ R = ((rs.drop k).all relLean && decide (rs.length ≤ 110)) ∧ Below w.heap.size w wr) (fun _ i _ => rs.length - (intOf i).toNat)
  case atStart => exact ⟨0, Nat.zero_le _, rfl, by rw [List.drop_zero]; exact RE.out.symm, Below.refl _ _⟩
  case round =>
    obtain ⟨k, hk, rfl, hd, ho⟩ := hrel
    have HD := Lib.hid hd
    have HO := Lib.hid ho
    clear hd ho
    by_cases hlt : k < rs.length
    · obtain ⟨b1, o1, rfl, hb1', g1⟩ := HA.out (by omega)
      have LI := Lib.hid ((g1 k hlt).over hb1' HO.out)
      have DR := Lib.hid (show rs.drop k = rs[k] :: rs.drop (k + 1) from List.drop_eq_getElem_cons hlt)
      have z1 : (k : Int) < (rs.length : Int) := by omega
      have z2 : (0 : Int) ≤ (k : Int) := by omega
      clear g1 HA
      generalize rs[k] = x at *
      obtain ⟨a0, a1, a2⟩ := LI.out
      have BA := Lib.hid (fun o => HO.out.alloc HO.out.size o)
      by_cases q1 : (10 : Int) < (x.vs.length : Int)
      · have HZ := Lib.hid (show R = false from by rw [HD.out, DR.out, List.all_cons, show relLean x = false from by unfold relLean; rw [decide_eq_false (show ¬ x.vs.length ≤ 10 by omega)]; rfl]; simp)
        go_wp2_with fail
        go_ret
        exact ⟨by rw [HZ.out]; rfl, BA.out _⟩
      · by_cases q2 : (100 : Int) < (x.k.size : Int)
        · have HZ := Lib.hid (show R = false from by rw [HD.out, DR.out, List.all_cons, show relLean x = false from by unfold relLean; rw [decide_eq_false (show ¬ x.k.size ≤ 100 by omega), Bool.and_false]]; simp)
          go_wp2_with fail
          go_ret
          exact ⟨by rw [HZ.out]; rfl, BA.out _⟩
        · have HZ := Lib.hid (show R = ((rs.drop (k + 1)).all relLean && decide (rs.length ≤ 110)) from by rw [HD.out, DR.out, List.all_cons, show relLean x = true from by unfold relLean; rw [decide_eq_true (show x.vs.length ≤ 10 by omega), decide_eq_true (show x.k.size ≤ 100 by omega)]; rfl, Bool.true_and])
          have z3 : (k : Int) + 1 ≤ 9223372036854775807 := by omega
          go_wp2_with fail
          go_roundw
          case rel => exact ⟨k + 1, by omega, by go_num, HZ.out, BA.out _⟩
          case measure => simp [intOf]; omega
    · obtain rfl : k = rs.length := by omega
      have HZ := Lib.hid (show R = decide (rs.length ≤ 110) from by rw [HD.out, List.drop_length]; rfl)
      clear HA
      by_cases q1 : rs.length ≤ 110
      · have q2 : (rs.length : Int) ≤ 110 := by omega
        go_wp2_with fail
        go_ret
        exact ⟨by rw [HZ.out, decide_eq_true q1]; rfl, HO.out⟩
      · have q2 : ¬ (rs.length : Int) ≤ 110 := by omega
        go_wp2_with fail
        go_ret
        exact ⟨by rw [HZ.out, decide_eq_false q1]; rfl, HO.out⟩
end Go.Proofs.YthakhdbakmlooaaDoor

/-
  Rows of numbers of one's own, cell by cell.
-/
namespace Go.Proofs.YthakhdbakmlooaaDoor
open Go Go.RowKit Go.Ev

theorem cellLt {w : World} {p : Addr} {v : Value} (h : w.cell? p = some v) : p.block < w.heap.size := by
  rcases Nat.lt_or_ge p.block w.heap.size with h' | h'
  · exact h'
  · simp [World.cell?, Array.getElem?_eq_none h'] at h
/-- numbers in a block's cells, which may be written -/
def RowAt (w : World) (g : Nat) (xs : List Int) : Prop := ∀ j (h : j < xs.length), w.cell? ⟨g, j, none⟩ = some (.int .i64 xs[j]) ∧ w.frozen? ⟨g, j, none⟩ = false
theorem RowAt.lt {w : World} {g : Nat} {xs : List Int} (h : RowAt w g xs) {k : Nat} (hk : k < xs.length) : g < w.heap.size := cellLt (p := ⟨g, k, none⟩) (h k hk).1
theorem RowAt.below {w w' : World} {g n₀ : Nat} {xs : List Int} (h : RowAt w g xs) (hb : Below n₀ w w') (hg : g < n₀) : RowAt w' g xs := fun j hj => ⟨(hb.cell (p := ⟨g, j, none⟩) hg).trans (h j hj).1, (hb.frozen (p := ⟨g, j, none⟩) hg).trans (h j hj).2⟩
theorem RowAt.take {w : World} {g : Nat} {xs : List Int} (h : RowAt w g xs) (k : Nat) : RowAt w g (xs.take k) := fun j hj => by
  have hj' : j < xs.length := by simp at hj; omega
  rw [List.getElem_take]
  exact h j hj'
theorem RowAt.set {w : World} {g : Nat} {xs : List Int} (h : RowAt w g xs) {i : Nat} (hi : i < xs.length) (v : Int) : RowAt (w.setCell ⟨g, i, none⟩ (.int .i64 v)) g (xs.set i v) := fun j hj => by
  have hj' : j < xs.length := by simpa using hj
  refine ⟨?_, by rw [World.frozen?_setCell]; exact (h j hj').2⟩
  by_cases e : i = j
  · subst e
    rw [World.cell?_setCell_same _ _ _ (h i hi).1]
    simp
  · rw [World.cell?_setCell_other _ _ _ _ (fun h => e (by injection h)), (h j hj').1, List.getElem_set_ne e]
end Go.Proofs.YthakhdbakmlooaaDoor

/-
  A list copied.
-/
namespace Go.Proofs.YthakhdbakmlooaaDoor
open Go Go.RowKit Go.Ev

theorem rowAt_of_owns {W : World} {base n cap : Nat} {G : Option Addr} {xs : List Int} (h : W.ownsRow base 3 1 (.slice G xs.length cap) n (xs.map (Value.int .i64))) (hp : 0 < xs.length) : ∃ g, G = some ⟨g, 0, none⟩ ∧ base ≤ g ∧ RowAt W g xs := by
  obtain ⟨h1, h2⟩ := h
  rcases h2 with ⟨hv, _⟩ | ⟨g', cap', cur, hv, hb, hg, hc, hm, hs, ht⟩
  · simp only [Value.slice.injEq] at hv; omega
  · cases hv
    refine ⟨g', rfl, hb, fun j hj => ⟨?_, by simp [World.frozen?, hg]⟩⟩
    have : (cur.toList.take (xs.length * 1))[j]? = some (.int .i64 xs[j]) := by rw [ht]; simp [List.getElem?_eq_getElem hj]
    rw [List.getElem?_take] at this
    split at this
    · simp only [World.cell?, hg]; simpa using this
    · cases this
end Go.Proofs.YthakhdbakmlooaaDoor

/-
  Reading a row that a call has made; slices.Equal.
-/
namespace Go.Proofs.YthakhdbakmlooaaDoor
set_option linter.unusedSimpArgs false
open Go Go.RowKit Go.Ev

theorem ints_of_rowAt {w : World} {A : Option Addr} {xs : List Int} {base : Nat} (hl : xs.length ≤ 1000000) (hr : ∀ x ∈ xs, -9223372036854775808 ≤ x ∧ x ≤ 9223372036854775807) (h : 0 < xs.length → ∃ g, A = some ⟨g, 0, none⟩ ∧ base ≤ g ∧ RowAt w g xs) : Ints w A xs :=
  ⟨hl, hr, fun hp => by
    obtain ⟨g, e, _, hr⟩ := h hp
    exact ⟨g, 0, e, hr.lt hp, fun i hi => by rw [Nat.zero_add]; exact (hr i hi).1⟩⟩
end Go.Proofs.YthakhdbakmlooaaDoor

/-
  Reading what Fix has made: families, whether they have a set, whether they are fixed.
-/
namespace Go.Proofs.YthakhdbakmlooaaDoor
set_option linter.unusedSimpArgs false
set_option linter.unusedVariables false
open Go Go.RowKit Go.Shelf Go.Ev

theorem bi_length (x : Nat) : (bitsOf 64 0 x).length = (bi x).length := by unfold bi; rw [List.length_map]
theorem natCells_bi (x : Nat) : natCells (bitsOf 64 0 x) = (bi x).map (Value.int .i64) := by
  unfold natCells bi
  rw [List.map_map]
  rfl
/-- a list that is handed out can be read -/
theorem row_ints {W : World} {base x : Nat} {v : Value} (hx : x < 18446744073709551616) (h : BitRow W base v x) : ∃ G cap, v = .slice G (bi x).length cap ∧ Ints W G (bi x) := by
  obtain ⟨⟨G, cap, rfl⟩, ho⟩ := h
  rw [natCells_bi] at ho
  rw [bi_length] at ho ⊢
  refine ⟨G, cap, rfl, ?_⟩
  have hr := bi_all hx
  rw [List.all_eq_true] at hr
  exact ints_of_rowAt (base := base) (by rw [bi_len hx]; have := ones_le64 hx; omega) (fun y hy => by
    have := hr y hy
    simp only [inR, Bool.and_eq_true, decide_eq_true_eq] at this
    omega) (fun hp => rowAt_of_owns ho hp)
theorem valid_out {b : BdV} (h : FineB b) : validFB (bi b.lo) (bi b.hi) b.mn b.mx = true := by
  obtain ⟨h1, h2, h3, h4, h5⟩ := h
  unfold validFB inS
  rw [bi_elems h1, bi_elems h2, decide_eq_true (show 0 ≤ b.mn by omega), decide_eq_true (show b.mn ≤ 64 by omega), decide_eq_true (show 0 ≤ b.mx by omega), decide_eq_true (show b.mx ≤ 64 by omega)]
  rfl
theorem fams_read {w : World} {g n : Nat} {H : Nat → BdV} (hn : n ≤ 1000000) (hH : Fine H) (hg : g < w.heap.size) (h : FamsOut w g n H) :
    ∃ fs : List FamV, fs.length = n ∧ FamsLie w (some ⟨g, 0, none⟩) fs ∧ ∀ i (hi : i < fs.length), fs[i].lo = bi (H i).lo ∧ fs[i].hi = bi (H i).hi ∧ fs[i].mn = (H i).mn ∧ fs[i].mx = (H i).mx := by
  have one : ∀ i, ∃ f : FamV, i < n → FamLies w g (i * 4) f ∧ f.lo = bi (H i).lo ∧ f.hi = bi (H i).hi ∧ f.mn = (H i).mn ∧ f.mx = (H i).mx := fun i => by
    by_cases hi : i < n
    · obtain ⟨v1, v2, c0, c1, c2, c3, b1, b2⟩ := h i hi
      obtain ⟨A, p1, rfl, i1⟩ := row_ints (hH i).1 b1
      obtain ⟨B, p2, rfl, i2⟩ := row_ints (hH i).2.1 b2
      exact ⟨⟨bi (H i).lo, bi (H i).hi, (H i).mn, (H i).mx, A, B, p1, p2⟩, fun _ => ⟨⟨c0, c1, c2, c3, i1, i2⟩, rfl, rfl, rfl, rfl⟩⟩
    · exact ⟨⟨[], [], 0, 0, none, none, 0, 0⟩, fun h => absurd h hi⟩
  obtain ⟨f, hf⟩ := Classical.axiomOfChoice one
  refine ⟨(List.range n).map f, by simp, ⟨by simpa using hn, fun _ => ⟨g, 0, rfl, hg, fun i hi => ?_⟩⟩, fun i hi => ?_⟩
  · have hi' : i < n := by simpa using hi
    rw [Nat.zero_add, List.getElem_map, List.getElem_range]
    exact (hf i hi').1
  · have hi' : i < n := by simpa using hi
    rw [List.getElem_map, List.getElem_range]
    exact (hf i hi').2
end Go.Proofs.YthakhdbakmlooaaDoor
