/-
  Relations, families and sets that come in as arguments, however many.
-/
import Derived.Test.YthakhdbakmlooaaDoorKbO
import Derived.Deep.MidRow
import Derived.Deep.Slices
import Derived.ChangeOld
import Derived.OpenShut
import Derived.ChangeSlices
import Derived.Maps.AppendAt
namespace Go.Proofs.YthakhdbakmlooaaDoor
set_option linter.unusedSimpArgs false
set_option linter.unusedVariables false
open Go Go.RowKit Go.Ev Go.Deep Go.ChangeShapes Go.WideShapes

/-- integers that lie, however many -/
def IntsF (w : World) (A : Option Addr) (xs : List Int) : Prop := (∀ x ∈ xs, -9223372036854775808 ≤ x ∧ x ≤ 9223372036854775807) ∧
  (0 < xs.length → ∃ b off, A = some ⟨b, off, none⟩ ∧ b < w.heap.size ∧ ∀ i (h : i < xs.length), w.cell? ⟨b, off + i, none⟩ = some (.int .i64 xs[i]))
theorem IntsF.small {w : World} {A : Option Addr} {xs : List Int} (h : IntsF w A xs) (hl : xs.length ≤ 1000000) : Ints w A xs := ⟨hl, h.1, h.2⟩
instance : Inhabited FamV := ⟨⟨[], [], 0, 0, none, none, 0, 0⟩⟩
instance : Inhabited RelV := ⟨⟨ByteArray.empty, .none, [], 0, none, 0⟩⟩
/-- families that lie, however large -/
def FamI (w : World) (f : FamV) : Prop := IntsF w f.A f.lo ∧ IntsF w f.B f.hi
def Fams (w : World) (A : Option Addr) (fs : List FamV) : Prop := 0 < fs.length → ∃ b o, A = some ⟨b, o, none⟩ ∧ b < w.heap.size ∧ ∀ i (h : i < fs.length), FamC w b (o + i * 4) fs[i] ∧ FamI w fs[i]
/-- relations that lie, however large -/
def RelI (w : World) (r : RelV) : Prop := KF r.k.toList r.d ∧ IntsF w r.A r.vs
def Rels (w : World) (A : Option Addr) (rs : List RelV) : Prop := 0 < rs.length → ∃ b o, A = some ⟨b, o, none⟩ ∧ b < w.heap.size ∧ ∀ i (h : i < rs.length), RelC w b (o + i * 3) rs[i] ∧ RelI w rs[i]
theorem Fams.cells {w : World} {A : Option Addr} {fs : List FamV} (h : Fams w A fs) : FamsC w A fs := fun hp => by
  obtain ⟨b, o, e, hb, hf⟩ := h hp
  exact ⟨b, o, e, hb, fun i hi => (hf i hi).1⟩
theorem Rels.cells {w : World} {A : Option Addr} {rs : List RelV} (h : Rels w A rs) : RelsC w A rs := fun hp => by
  obtain ⟨b, o, e, hb, hf⟩ := h hp
  exact ⟨b, o, e, hb, fun i hi => (hf i hi).1⟩
theorem Fams.small {w : World} {A : Option Addr} {fs : List FamV} (h : Fams w A fs) (hl : (fs.all famLight && decide (fs.length ≤ 50)) = true) : FamsLie w A fs := by
  simp only [Bool.and_eq_true, decide_eq_true_eq] at hl
  refine ⟨by omega, fun hp => ?_⟩
  obtain ⟨b, o, e, hb, hf⟩ := h hp
  refine ⟨b, o, e, hb, fun i hi => ?_⟩
  have k := List.all_eq_true.1 hl.1 _ (List.getElem_mem hi)
  unfold famLight at k
  simp only [Bool.and_eq_true, decide_eq_true_eq] at k
  obtain ⟨⟨c0, c1, c2, c3⟩, i1, i2⟩ := hf i hi
  exact ⟨c0, c1, c2, c3, i1.small (by omega), i2.small (by omega)⟩
theorem Rels.small {w : World} {A : Option Addr} {rs : List RelV} (h : Rels w A rs) (hl : (rs.all relLean && decide (rs.length ≤ 110)) = true) : RelsL w A rs := by
  simp only [Bool.and_eq_true, decide_eq_true_eq] at hl
  refine ⟨by omega, fun hp => ?_⟩
  obtain ⟨b, o, e, hb, hf⟩ := h hp
  refine ⟨b, o, e, hb, fun i hi => ?_⟩
  have k := List.all_eq_true.1 hl.1 _ (List.getElem_mem hi)
  unfold relLean at k
  simp only [Bool.and_eq_true, decide_eq_true_eq] at k
  obtain ⟨⟨c0, c1, c2⟩, hk, i1⟩ := hf i hi
  exact ⟨c0, c1, c2, hk, i1.small (by omega)⟩
section
variable {H : Type} {enc : TypeId × Value → H} {w : World} {base : Nat} {spare : Nat → Bool} {held : Bool}
theorem wf_range {n : Int} (h : (Lit.int .i64 n).wf = true) : -9223372036854775808 ≤ n ∧ n ≤ 9223372036854775807 := by
  simp [Lit.wf, IntKind.min, IntKind.max, IntKind.signed, IntKind.bits] at h
  exact h
set_option maxRecDepth 100000 in
theorem ints_open {fuel : Nat} {cs : List Value} {x : DataW H × List MemPlace} (h : DataW.trod enc Tryd.prog w base spare held fuel 22 cs = some x) :
    ∃ (A : Option Addr) (l c : Nat) (xs : List Int), cs = [.slice A l c] ∧ xs.length = l ∧ (A = none → c = 0) ∧ IntsF w A xs := by
  rcases open_ints Tryd.underlying22 Tryd.underlying3 (by kernel_rfl) h with ⟨rfl, _⟩ | ⟨a, len, cap, zs, rfl, _, hl, hm, hz, _, hcell, hwz⟩
  · exact ⟨none, 0, 0, [], rfl, rfl, fun _ => rfl, fun x hx => by simp at hx, fun h => by simp at h⟩
  · have hzl : len ≤ zs.length := by rw [hz]; split <;> omega
    refine ⟨some a, len, cap, zs.take len, rfl, by simp; omega, fun h => (by cases h), fun x hx => wf_range (hwz x (List.mem_of_mem_take hx)), fun hp => ?_⟩
    have hp : 0 < len := by simp at hp; omega
    obtain ⟨b, off, rfl, hc⟩ := ints_at hcell (by omega)
    have c0 := hc 0 (by omega)
    refine ⟨b, off, rfl, ?_, fun i hi => ?_⟩
    · rcases Nat.lt_or_ge b w.heap.size with h' | h'
      · exact h'
      · simp [World.cell?, Array.getElem?_eq_none h'] at c0
    · have hi' : i < len := by simp at hi; omega
      rw [hc i (by omega)]
      simp [List.getD_eq_getElem?_getD, List.getElem?_eq_getElem (show i < zs.length by omega)]
set_option maxRecDepth 100000 in
theorem rel_open {fuel : Nat} {cs : List Value} {x : DataW H × List MemPlace} (h : DataW.trod enc Tryd.prog w base spare held fuel 38 cs = some x) :
    ∃ (s : ByteArray) (A : Option Addr) (c1 : Nat) (vs : List Int) (n : Int), cs = [.string s, .slice A vs.length c1, .int .i64 n] ∧ IntsF w A vs := by
  obtain ⟨xs, k, _, _, hcl, hxl, hf⟩ := DataW.trod_struct Tryd.underlying38 h
  have hcl : cs.length = 3 := hcl.trans (by kernel_rfl)
  match cs, hcl with
  | [v0, v1, v2], _ =>
    match xs, hxl with
    | [y0, y1, y2], _ =>
      have cs1 : Tryd.prog.cellsOf 9 = 1 := by kernel_rfl
      have ci1 : Tryd.prog.cellsOf 3 = 1 := by kernel_rfl
      have cl1 : Tryd.prog.cellsOf 22 = 1 := by kernel_rfl
      have g0 := hf 0 _ rfl
      have g1 := hf 1 _ rfl
      have g2 := hf 2 _ rfl
      change DataW.trod enc Tryd.prog w base spare held k 9 (List.take (Tryd.prog.cellsOf 9) [v0, v1, v2]) = some y0 at g0
      change DataW.trod enc Tryd.prog w base spare held k 22 (List.take (Tryd.prog.cellsOf 22) [v1, v2]) = some y1 at g1
      change DataW.trod enc Tryd.prog w base spare held k 3 (List.take (Tryd.prog.cellsOf 3) [v2]) = some y2 at g2
      rw [cs1] at g0
      rw [cl1] at g1
      rw [ci1] at g2
      obtain ⟨s0, e0, _⟩ := DataW.trod_string Tryd.underlying9 g0
      obtain ⟨A, l1, c1, vs, e1, rfl, _, h1⟩ := ints_open g1
      obtain ⟨n, e2, _, _⟩ := DataW.trod_int Tryd.underlying3 g2
      simp only [List.take_succ_cons, List.take_zero, List.cons.injEq, and_true] at e0 e1 e2
      exact ⟨s0, A, c1, vs, n, by rw [e0, e1, e2], h1⟩
set_option maxRecDepth 100000 in
theorem fam_open {fuel : Nat} {cs : List Value} {x : DataW H × List MemPlace} (h : DataW.trod enc Tryd.prog w base spare held fuel 24 cs = some x) :
    ∃ (A : Option Addr) (c1 : Nat) (lo : List Int) (B : Option Addr) (c2 : Nat) (hi : List Int) (mn mx : Int), cs = [.slice A lo.length c1, .slice B hi.length c2, .int .i64 mn, .int .i64 mx] ∧ IntsF w A lo ∧ IntsF w B hi := by
  obtain ⟨xs, k, _, _, hcl, hxl, hf⟩ := DataW.trod_struct Tryd.underlying24 h
  have hcl : cs.length = 4 := hcl.trans (by kernel_rfl)
  match cs, hcl with
  | [v0, v1, v2, v3], _ =>
    match xs, hxl with
    | [y0, y1, y2, y3], _ =>
      have ci1 : Tryd.prog.cellsOf 3 = 1 := by kernel_rfl
      have cl1 : Tryd.prog.cellsOf 22 = 1 := by kernel_rfl
      have g0 := hf 0 _ rfl
      have g1 := hf 1 _ rfl
      have g2 := hf 2 _ rfl
      have g3 := hf 3 _ rfl
      change DataW.trod enc Tryd.prog w base spare held k 22 (List.take (Tryd.prog.cellsOf 22) [v0, v1, v2, v3]) = some y0 at g0
      change DataW.trod enc Tryd.prog w base spare held k 22 (List.take (Tryd.prog.cellsOf 22) [v1, v2, v3]) = some y1 at g1
      change DataW.trod enc Tryd.prog w base spare held k 3 (List.take (Tryd.prog.cellsOf 3) [v2, v3]) = some y2 at g2
      change DataW.trod enc Tryd.prog w base spare held k 3 (List.take (Tryd.prog.cellsOf 3) [v3]) = some y3 at g3
      rw [cl1] at g0 g1
      rw [ci1] at g2 g3
      obtain ⟨A, l1, c1, lo, e0, rfl, _, h0⟩ := ints_open g0
      obtain ⟨B, l2, c2, hi, e1, rfl, _, h1⟩ := ints_open g1
      obtain ⟨mn, e2, _, _⟩ := DataW.trod_int Tryd.underlying3 g2
      obtain ⟨mx, e3, _, _⟩ := DataW.trod_int Tryd.underlying3 g3
      simp only [List.take_succ_cons, List.take_zero, List.cons.injEq, and_true] at e0 e1 e2 e3
      exact ⟨A, c1, lo, B, c2, hi, mn, mx, by rw [e0, e1, e2, e3], h0, h1⟩
set_option maxRecDepth 100000 in
theorem fams_open {n : Nat} {cs : List Value} {x : DataW H × List MemPlace} (h : DataW.trod enc Tryd.prog w base spare held n 43 cs = some x) :
    ∃ (A : Option Addr) (len cap : Nat) (ks : List FamV), cs = [.slice A len cap] ∧ ks.length = len ∧ Fams w A ks := by
  rcases open_slice Tryd.underlying43 h with ⟨rfl, _⟩ | ⟨a, len, cap, m, n', D, Pl, rfl, _, hl, hm, hmm, _, hx⟩
  · exact ⟨none, 0, 0, [], rfl, rfl, fun h0 => by simp at h0⟩
  · have ce : Tryd.prog.cellsOf 24 = 4 := by kernel_rfl
    rw [ce] at hx
    have hlm : len ≤ m := by rw [hmm]; split <;> omega
    obtain ⟨q, hq⟩ := choose_lt (α := FamV) (n := len) (p := fun i q => (w.cell? (a.add (i * 4)) = some (.slice q.A q.lo.length q.c1) ∧ w.cell? (a.add (i * 4 + 1)) = some (.slice q.B q.hi.length q.c2) ∧ w.cell? (a.add (i * 4 + 2)) = some (.int .i64 q.mn) ∧ w.cell? (a.add (i * 4 + 3)) = some (.int .i64 q.mx)) ∧ FamI w q) (fun i hi => by
      obtain ⟨cs', h1, h2⟩ := hx i (by omega)
      obtain ⟨_, _, hcell⟩ := World.cells?_some h1
      obtain ⟨A, c1, lo, B, c2, hi', mn, mx, rfl, iA, iB⟩ := fam_open h2
      have e0 := hcell 0 (by omega)
      have e1 := hcell 1 (by omega)
      have e2 := hcell 2 (by omega)
      have e3 := hcell 3 (by omega)
      rw [add_add] at e0 e1 e2 e3
      exact ⟨⟨lo, hi', mn, mx, A, B, c1, c2⟩, ⟨e0, e1, e2, e3⟩, iA, iB⟩)
    refine ⟨some a, len, cap, (List.range len).map q, rfl, by simp, fun h0 => ?_⟩
    have hp : 0 < len := by simpa using h0
    obtain ⟨b, off, spot⟩ := a
    have hz := (hq 0 hp).1.1
    have hspot : spot = none := by simpa [Addr.add] using World.cell?_spot hz
    subst hspot
    have hb := cellLt hz
    rw [Addr.add_mid] at hb
    refine ⟨b, off, rfl, hb, fun j hj => ?_⟩
    have hj' : j < len := by simpa using hj
    have hk := hq j hj'
    simp only [Addr.add_mid, ← Nat.add_assoc] at hk
    rw [List.getElem_map, List.getElem_range]
    exact ⟨hk.1, hk.2⟩
set_option maxRecDepth 100000 in
theorem rels_open {n : Nat} {cs : List Value} {x : DataW H × List MemPlace} (h : DataW.trod enc Tryd.prog w base spare held n 41 cs = some x) :
    ∃ (A : Option Addr) (len cap : Nat) (ks : List RelV), cs = [.slice A len cap] ∧ ks.length = len ∧ Rels w A ks := by
  rcases open_slice Tryd.underlying41 h with ⟨rfl, _⟩ | ⟨a, len, cap, m, n', D, Pl, rfl, _, hl, hm, hmm, _, hx⟩
  · exact ⟨none, 0, 0, [], rfl, rfl, fun h0 => by simp at h0⟩
  · have ce : Tryd.prog.cellsOf 38 = 3 := by kernel_rfl
    rw [ce] at hx
    have hlm : len ≤ m := by rw [hmm]; split <;> omega
    obtain ⟨q, hq⟩ := choose_lt (α := RelV) (n := len) (p := fun i q => (w.cell? (a.add (i * 3)) = some (.string q.k) ∧ w.cell? (a.add (i * 3 + 1)) = some (.slice q.A q.vs.length q.c) ∧ w.cell? (a.add (i * 3 + 2)) = some (.int .i64 q.N)) ∧ RelI w q) (fun i hi => by
      obtain ⟨cs', h1, h2⟩ := hx i (by omega)
      obtain ⟨_, _, hcell⟩ := World.cells?_some h1
      obtain ⟨s, A, c1, vs, n, rfl, iA⟩ := rel_open h2
      obtain ⟨d, hd⟩ := kind_of s.toList
      have e0 := hcell 0 (by omega)
      have e1 := hcell 1 (by omega)
      have e2 := hcell 2 (by omega)
      rw [add_add] at e0 e1 e2
      exact ⟨⟨s, d, vs, n, A, c1⟩, ⟨e0, e1, e2⟩, hd, iA⟩)
    refine ⟨some a, len, cap, (List.range len).map q, rfl, by simp, fun h0 => ?_⟩
    have hp : 0 < len := by simpa using h0
    obtain ⟨b, off, spot⟩ := a
    have hz := (hq 0 hp).1.1
    have hspot : spot = none := by simpa [Addr.add] using World.cell?_spot hz
    subst hspot
    have hb := cellLt hz
    rw [Addr.add_mid] at hb
    refine ⟨b, off, rfl, hb, fun j hj => ?_⟩
    have hj' : j < len := by simpa using hj
    have hk := hq j hj'
    simp only [Addr.add_mid, ← Nat.add_assoc] at hk
    rw [List.getElem_map, List.getElem_range]
    exact ⟨hk.1, hk.2⟩
end
end Go.Proofs.YthakhdbakmlooaaDoor

/-
  A row of families of one's own, appended to one by one.
-/
namespace Go.Proofs.YthakhdbakmlooaaDoor
set_option linter.unusedSimpArgs false
set_option linter.unusedVariables false
open Go Go.RowKit Go.Shelf Go.Ev

/-- the cells of a family -/
def famCell (f : FamV) (j : Nat) : Value := match j with
  | 0 => .slice f.A f.lo.length f.c1
  | 1 => .slice f.B f.hi.length f.c2
  | 2 => .int .i64 f.mn
  | _ => .int .i64 f.mx
/-- the cells of families -/
def flatF (fs : List FamV) : List Value := (List.range (fs.length * 4)).map fun q => famCell (fs.getD (q / 4) default) (q % 4)
theorem flatF_snoc (fs : List FamV) (f : FamV) : flatF (fs ++ [f]) = flatF fs ++ [famCell f 0, famCell f 1, famCell f 2, famCell f 3] := by
  unfold flatF
  rw [List.length_append, List.length_singleton, show (fs.length + 1) * 4 = fs.length * 4 + 1 + 1 + 1 + 1 by omega, List.range_succ, List.range_succ, List.range_succ, List.range_succ]
  simp only [List.map_append, List.map_cons, List.map_nil, List.append_assoc, List.singleton_append]
  have key : ∀ j, j < 4 → famCell ((fs ++ [f]).getD ((fs.length * 4 + j) / 4) default) ((fs.length * 4 + j) % 4) = famCell f j := fun j hj => by
    rw [show (fs.length * 4 + j) / 4 = fs.length by omega, show (fs.length * 4 + j) % 4 = j by omega, List.getD_eq_getElem?_getD, List.getElem?_append_right (Nat.le_refl _), Nat.sub_self]
    rfl
  have k0 := key 0 (by decide)
  have k1 := key 1 (by decide)
  have k2 := key 2 (by decide)
  have k3 := key 3 (by decide)
  simp only [Nat.add_zero] at k0
  congr 1
  · refine List.map_congr_left fun q hq => ?_
    have hq' : q / 4 < fs.length := by have := List.mem_range.1 hq; omega
    rw [List.getD_eq_getElem?_getD, List.getD_eq_getElem?_getD, List.getElem?_append_left hq']
  · rw [k0, k1]
    rw [show fs.length * 4 + 1 + 1 = fs.length * 4 + 2 by omega, k2, show fs.length * 4 + 2 + 1 = fs.length * 4 + 3 by omega, k3]
    rfl
theorem flatF_get (fs : List FamV) (i j : Nat) (hi : i < fs.length) (hj : j < 4) : (flatF fs)[i * 4 + j]? = some (famCell fs[i] j) := by
  unfold flatF
  rw [List.getElem?_map, List.getElem?_range (by omega)]
  rw [Option.map_some, show (i * 4 + j) / 4 = i by omega, show (i * 4 + j) % 4 = j by omega, List.getD_eq_getElem?_getD, List.getElem?_eq_getElem hi]
  rfl
theorem famCell_one (f : FamV) (j : Nat) : (famCell f j).oneCell' = true := by
  unfold famCell
  split <;> rfl
/-- a row of one's own, read as families -/
theorem fams_of_owns {W : World} {base : Nat} {v : Value} {fs : List FamV} (hn : fs.length ≤ 1000000) (h : W.ownsRow base 24 4 v fs.length (flatF fs)) (hI : ∀ f ∈ fs, Ints W f.A f.lo ∧ Ints W f.B f.hi) :
    ∃ A cap, v = .slice A fs.length cap ∧ FamsLie W A fs := by
  obtain ⟨h1, h2⟩ := h
  rcases h2 with ⟨h0, hz⟩ | ⟨g, cap, cur, hv, hb, hg, hc, hm, hs, ht⟩
  · refine ⟨none, 0, by rw [h0, hz], hn, fun hp => by omega⟩
  · refine ⟨_, cap, hv, hn, fun _ => ⟨g, 0, rfl, (Array.getElem?_eq_some_iff.1 hg).1, fun i hi => ?_⟩⟩
    have cell : ∀ j, j < 4 → W.cell? ⟨g, i * 4 + j, none⟩ = some (famCell fs[i] j) := fun j hj => by
      have e := flatF_get fs i j hi hj
      rw [← ht, List.getElem?_take, if_pos (by omega)] at e
      simp only [World.cell?, hg]
      simpa using e
    have c0 := cell 0 (by decide)
    have c1 := cell 1 (by decide)
    have c2 := cell 2 (by decide)
    have c3 := cell 3 (by decide)
    have ii := hI _ (List.getElem_mem hi)
    rw [Nat.zero_add]
    exact ⟨c0, c1, c2, c3, ii.1, ii.2⟩
end Go.Proofs.YthakhdbakmlooaaDoor

/-
  A family behind a row of families of one's own; the sets as families.
-/
namespace Go.Proofs.YthakhdbakmlooaaDoor
set_option linter.unusedSimpArgs false
set_option linter.unusedVariables false
open Go Go.RowKit Go.Shelf Go.Ev

theorem cells4_new (w : World) (a b c d : Value) (t : TypeId) : ∀ j u, [a, b, c, d][j]? = some u → (w.alloc (.cells #[a, b, c, d] t)).cell? ((⟨w.heap.size, 0, none⟩ : Addr).add j) = some u := by
  intro j u hj
  match j, hj with
  | 0, hj => simp at hj; subst hj; simp [Addr.add]
  | 1, hj => simp at hj; subst hj; simp [Addr.add]
  | 2, hj => simp at hj; subst hj; simp [Addr.add]
  | 3, hj => simp at hj; subst hj; simp [Addr.add]
theorem owns_over {w w' : World} {base size n : Nat} {e : TypeId} {v : Value} {xs : List Value} (h : w.ownsRow base e size v n xs) (k : Below w.heap.size w w') : w'.ownsRow base e size v n xs := by
  obtain ⟨h1, h2⟩ := h
  rcases h2 with h0 | ⟨g, cap, cur, hv, hb, hg, r⟩
  · exact ⟨h1, .inl h0⟩
  · exact ⟨h1, .inr ⟨g, cap, cur, hv, hb, (k.block g (Array.getElem?_eq_some_iff.1 hg).1).trans hg, r⟩⟩
end Go.Proofs.YthakhdbakmlooaaDoor
