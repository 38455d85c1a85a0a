/-
  Fix, laid out: what it begins with.
-/
import Derived.Test.YthakhdbakmlooaaDoorKbK
namespace Go.Proofs.YthakhdbakmlooaaDoor
set_option linter.unusedSimpArgs false
open Go Go.RowKit Go.Shelf Go.Ev

def zB : BdV := ⟨0, 0, 0, 0⟩
theorem infoF : (Tryd.prog.info? 24).map (fun i => (i.zero, i.size, i.bytes)) = some (some (.agg #[.slice none 0 0, .slice none 0 0, .int .i64 0, .int .i64 0]), 4, 64) := by kernel_rfl
theorem make_bounds (n : Nat) (hn : n ≤ 1000000) (w : World) : (Instr.makeSlice 80 (.int .i64 (n : Int)) (.int .i64 (n : Int))).run Tryd.prog w = .ok (.slice (some ⟨w.heap.size, 0, none⟩) n n) (w.alloc (.cells (madeCells #[.int .u64 0, .int .u64 0, .int .i64 0, .int .i64 0] (n * 4)) 53)) := by
  obtain ⟨i, hi, hz, hs, hb⟩ := info_parts infoB
  have hr := run_make (P := Tryd.prog) w 80 53 i _ Tryd.underlying80 hi hz .i64 .i64 n n (by omega) (Int.le_refl _) (by rw [hb]; omega) (by omega)
  simp only [Int.toNat_natCast, hs] at hr
  exact hr
theorem make_fams (n : Nat) (hn : n ≤ 1000000) (w : World) : (Instr.makeSlice 43 (.int .i64 (n : Int)) (.int .i64 (n : Int))).run Tryd.prog w = .ok (.slice (some ⟨w.heap.size, 0, none⟩) n n) (w.alloc (.cells (madeCells #[.slice none 0 0, .slice none 0 0, .int .i64 0, .int .i64 0] (n * 4)) 24)) := by
  obtain ⟨i, hi, hz, hs, hb⟩ := info_parts infoF
  have hr := run_make (P := Tryd.prog) w 43 24 i _ Tryd.underlying43 hi hz .i64 .i64 n n (by omega) (Int.le_refl _) (by rw [hb]; omega) (by omega)
  simp only [Int.toNat_natCast, hs] at hr
  exact hr
theorem made_bounds (n : Nat) (w : World) : BRow (w.alloc (.cells (madeCells #[.int .u64 0, .int .u64 0, .int .i64 0, .int .i64 0] (n * 4)) 53)) w.heap.size n (fun _ => zB) := by
  refine ⟨_, heap_alloc_new _ _, size_madeCells _ _, fun i hi => ?_⟩
  have h4 : i % 4 < 4 := Nat.mod_lt _ (by decide)
  simp only [madeCells, Array.getElem?_map, Array.getElem?_range, hi, if_true, Option.map_some]
  generalize i % 4 = j at *
  match j, h4 with
  | 0, _ => rfl
  | 1, _ => rfl
  | 2, _ => rfl
  | 3, _ => rfl
/-- bounds written whole -/
def setB (w : World) (g x : Nat) (b : BdV) : World := (((w.setCell ⟨g, x * 4, none⟩ (.int .u64 b.lo)).setCell ⟨g, x * 4 + 1, none⟩ (.int .u64 b.hi)).setCell ⟨g, x * 4 + 2, none⟩ (.int .i64 b.mn)).setCell ⟨g, x * 4 + 3, none⟩ (.int .i64 b.mx)
theorem BRow.setB {w : World} {g n : Nat} {F : Nat → BdV} (h : BRow w g n F) (x : Nat) (b : BdV) : BRow (setB w g x b) g n (upd F x b) := by
  have h0 := h.put x 0 (by decide) ⟨b.lo, (F x).hi, (F x).mn, (F x).mx⟩ (fun i hi hn => by match i, hi, hn with | 1, _, _ => rfl | 2, _, _ => rfl | 3, _, _ => rfl)
  have h1 := h0.put x 1 (by decide) ⟨b.lo, b.hi, (F x).mn, (F x).mx⟩ (fun i hi hn => by rw [upd_same]; match i, hi, hn with | 0, _, _ => rfl | 2, _, _ => rfl | 3, _, _ => rfl)
  have h2 := h1.put x 2 (by decide) ⟨b.lo, b.hi, b.mn, (F x).mx⟩ (fun i hi hn => by rw [upd_same]; match i, hi, hn with | 0, _, _ => rfl | 1, _, _ => rfl | 3, _, _ => rfl)
  have h3 := h2.put x 3 (by decide) b (fun i hi hn => by rw [upd_same]; match i, hi, hn with | 0, _, _ => rfl | 1, _, _ => rfl | 2, _, _ => rfl | 3, _, hn => exact absurd rfl hn)
  rw [upd_upd, upd_upd, upd_upd] at h3
  exact h3
theorem Only.setB (w : World) (g x : Nat) (b : BdV) : Only g w (setB w g x b) := (((Only.set _ _ _).trans (Only.set _ _ _)).trans (Only.set _ _ _)).trans (Only.set _ _ _)
/-- a family's bounds -/
def bdOf (f : FamV) : BdV := ⟨setN f.lo, setN f.hi, f.mn, f.mx⟩
/-- the normal bounds of families -/
def firstF (fs : List FamV) (i : Nat) : BdV := match fs[i]? with
  | some f => normB (bdOf f)
  | none => zB
def upToF (fs : List FamV) (k i : Nat) : BdV := if i < k then firstF fs i else zB
theorem upToF_step {fs : List FamV} {k : Nat} (h : k < fs.length) (b : BdV) : upd (upd (upToF fs k) k b) k (normB (bdOf fs[k])) = upToF fs (k + 1) := by
  rw [upd_upd]
  funext i
  unfold upd upToF
  by_cases e : i = k
  · rw [if_pos e, if_pos (by omega), e]
    unfold firstF
    rw [List.getElem?_eq_getElem h]
  · rw [if_neg e]
    by_cases e2 : i < k
    · rw [if_pos e2, if_pos (by omega)]
    · rw [if_neg e2, if_neg (by omega)]
theorem upToF_all (fs : List FamV) : upToF fs fs.length = firstF fs := by
  funext i
  unfold upToF firstF
  split
  · rfl
  · rw [List.getElem?_eq_none (by omega)]
theorem fam_parts {f : FamV} (h : f.ok = true) : f.lo.all inR = true ∧ f.hi.all inR = true ∧ inS f.mn = true ∧ inS f.mx = true := by
  unfold FamV.ok validFB at h
  simp only [Bool.and_eq_true] at h
  have h1 := h.1.1.1
  have h2 := h.1.1.2
  unfold elemsB at h1 h2
  simp only [Bool.and_eq_true] at h1 h2
  exact ⟨h1.2, h2.2, h.1.2, h.2⟩
end Go.Proofs.YthakhdbakmlooaaDoor

/-
  Fix: the program's.
-/
namespace Go.Proofs.YthakhdbakmlooaaDoor
set_option linter.unusedSimpArgs false
open Go Go.RowKit Go.Shelf Go.Ev

/-- the first k families of a row are these bounds -/
def FamsOut (w : World) (g k : Nat) (H : Nat → BdV) : Prop := ∀ i, i < k → ∃ v1 v2, w.cell? ⟨g, i * 4, none⟩ = some v1 ∧ w.cell? ⟨g, i * 4 + 1, none⟩ = some v2 ∧ w.cell? ⟨g, i * 4 + 2, none⟩ = some (.int .i64 (H i).mn) ∧ w.cell? ⟨g, i * 4 + 3, none⟩ = some (.int .i64 (H i).mx) ∧ BitRow w (g + 1) v1 (H i).lo ∧ BitRow w (g + 1) v2 (H i).hi
theorem BitRow.keep {W W' : World} {base base' : Nat} {v : Value} {x : Nat} (h : BitRow W base v x) (hz : base' ≤ base) (k : ∀ b, base ≤ b → b < W.heap.size → W'.heap[b]? = W.heap[b]?) : BitRow W' base' v x := by
  refine ⟨h.1, h.2.1, ?_⟩
  rcases h.2.2 with h0 | ⟨g, c, cur, hv, hb, hg, rest⟩
  · exact .inl h0
  · exact .inr ⟨g, c, cur, hv, Nat.le_trans hz hb, (k g hb (Array.getElem?_eq_some_iff.1 hg).1).trans hg, rest⟩
/-- the first k families of a row, told by its cells -/
def OutC (W : World) (g k : Nat) (H : Nat → BdV) (C : Nat → Value) : Prop := ∀ i, i < k → C (i * 4 + 2) = .int .i64 (H i).mn ∧ C (i * 4 + 3) = .int .i64 (H i).mx ∧ BitRow W (g + 1) (C (i * 4)) (H i).lo ∧ BitRow W (g + 1) (C (i * 4 + 1)) (H i).hi
theorem OutC.fams {W : World} {g n : Nat} {H : Nat → BdV} {C : Nat → Value} (h : OutC W g n H C) (r : W.rowIs g 24 (n * 4) C) : FamsOut W g n H := fun i hi =>
  ⟨C (i * 4), C (i * 4 + 1), World.rowIs.cell r (by omega), World.rowIs.cell r (by omega), by rw [← (h i hi).1]; exact World.rowIs.cell r (by omega), by rw [← (h i hi).2.1]; exact World.rowIs.cell r (by omega), (h i hi).2.2.1, (h i hi).2.2.2⟩
/-- four cells of a row set -/
def set4 (C : Nat → Value) (x : Nat) (a b c d : Value) : Nat → Value := fun j => if j = x * 4 + 3 then d else if j = x * 4 + 2 then c else if j = x * 4 + 1 then b else if j = x * 4 then a else C j
theorem row_set4 {w : World} {g n : Nat} {t : TypeId} {C : Nat → Value} (h : w.rowIs g t n C) (x : Nat) (a b c d : Value) :
    ((((w.setCell ⟨g, x * 4, none⟩ a).setCell ⟨g, x * 4 + 1, none⟩ b).setCell ⟨g, x * 4 + 2, none⟩ c).setCell ⟨g, x * 4 + 3, none⟩ d).rowIs g t n (set4 C x a b c d) :=
  (World.rowIs.set (World.rowIs.set (World.rowIs.set (World.rowIs.set h (x * 4) a) (x * 4 + 1) b) (x * 4 + 2) c) (x * 4 + 3) d)
theorem OutC.next {W W' : World} {g k : Nat} {H : Nat → BdV} {C : Nat → Value} {v1 v2 : Value} (h : OutC W g k H C) (hk : ∀ b, g + 1 ≤ b → b < W.heap.size → W'.heap[b]? = W.heap[b]?) (h1 : BitRow W' (g + 1) v1 (H k).lo) (h2 : BitRow W' (g + 1) v2 (H k).hi) : OutC W' g (k + 1) H (set4 C k v1 v2 (.int .i64 (H k).mn) (.int .i64 (H k).mx)) := fun i hi => by
  by_cases e : i = k
  · subst e
    refine ⟨?_, ?_, ?_, ?_⟩
    · unfold set4; rw [if_neg (by omega), if_pos rfl]
    · unfold set4; rw [if_pos rfl]
    · unfold set4; rw [if_neg (by omega), if_neg (by omega), if_neg (by omega), if_pos rfl]; exact h1
    · unfold set4; rw [if_neg (by omega), if_neg (by omega), if_pos rfl]; exact h2
  · obtain ⟨q1, q2, q3, q4⟩ := h i (by omega)
    refine ⟨?_, ?_, ?_, ?_⟩
    · unfold set4; rw [if_neg (by omega), if_neg (by omega), if_neg (by omega), if_neg (by omega)]; exact q1
    · unfold set4; rw [if_neg (by omega), if_neg (by omega), if_neg (by omega), if_neg (by omega)]; exact q2
    · unfold set4; rw [if_neg (by omega), if_neg (by omega), if_neg (by omega), if_neg (by omega)]; exact q3.keep (Nat.le_refl _) hk
    · unfold set4; rw [if_neg (by omega), if_neg (by omega), if_neg (by omega), if_neg (by omega)]; exact q4.keep (Nat.le_refl _) hk
theorem made_fams (n : Nat) (w : World) : ∃ C, (w.alloc (.cells (madeCells #[.slice none 0 0, .slice none 0 0, .int .i64 0, .int .i64 0] (n * 4)) 24)).rowIs w.heap.size 24 (n * 4) C :=
  ⟨fun i => (madeCells #[.slice none 0 0, .slice none 0 0, .int .i64 0, .int .i64 0] (n * 4))[i]?.getD undef, _, heap_alloc_new _ _, size_madeCells _ _, fun i hi => by
    have h := Array.getElem?_eq_getElem (xs := madeCells #[.slice none 0 0, .slice none 0 0, .int .i64 0, .int .i64 0] (n * 4)) (i := i) (by rw [size_madeCells]; exact hi)
    dsimp only
    rw [h]
    rfl⟩
theorem only4 (w : World) (g x : Nat) (a b c d : Value) : Only g w ((((w.setCell ⟨g, x * 4, none⟩ a).setCell ⟨g, x * 4 + 1, none⟩ b).setCell ⟨g, x * 4 + 2, none⟩ c).setCell ⟨g, x * 4 + 3, none⟩ d) := (((Only.set _ _ _).trans (Only.set _ _ _)).trans (Only.set _ _ _)).trans (Only.set _ _ _)
def okAll (fs : List FamV) : Bool := fs.all fun f => okB (bdOf f)
/-- what Fix answers -/
def FixRes (rs : List RelV) (fs : List FamV) (w : World) (e : Ending) (w' : World) : Prop :=
  ((validP rs fs = false ∧ e = .returned (.tuple #[.slice none 0 0, .int .i64 2])) ∨
   (validP rs fs = true ∧ (okAll fs = false ∨ ∃ H, Sett rs fs.length (firstF fs) false H) ∧ e = .returned (.tuple #[.slice none 0 0, .int .i64 60])) ∨
   (validP rs fs = true ∧ okAll fs = true ∧ ∃ H g, Sett rs fs.length (firstF fs) true H ∧ Fine H ∧ e = .returned (.tuple #[.slice (some ⟨g, 0, none⟩) fs.length fs.length, .int .i64 0]) ∧ w.heap.size ≤ g ∧ FamsOut w' g fs.length H)) ∧ Below w.heap.size w w'
theorem fine_first {fs : List FamV} (h1 : fs.all FamV.ok = true) (h2 : okAll fs = true) : Fine (firstF fs) := fun i => by
  unfold firstF
  split
  · next f hf =>
    have hm := List.mem_of_getElem? hf
    have v := fam_parts (List.all_eq_true.1 h1 f hm)
    exact (fine_norm (setN_lt v.1) (setN_lt v.2.1) (List.all_eq_true.1 h2 f hm)).1
  · exact ⟨by decide, by decide, by decide, by decide, by decide⟩
theorem bits_upTo {fs : List FamV} (h : fs.all FamV.ok = true) (k : Nat) : Bits (upToF fs k) := fun i => by
  unfold upToF
  split
  · unfold firstF
    split
    · next f hf =>
      have v := fam_parts (List.all_eq_true.1 h f (List.mem_of_getElem? hf))
      exact ⟨nlo_lt (setN_lt v.1) (setN_lt v.2.1), nhi_lt (setN_lt v.1) (setN_lt v.2.1)⟩
    · exact ⟨by decide, by decide⟩
  · exact ⟨by decide, by decide⟩
theorem RelsL.lies {w w' : World} {A : Option Addr} {rs : List RelV} {g n : Nat} (h : RelsL w A rs) (hv : (rs.all fun r => r.ok n) = true) (hg : w.heap.size ≤ g) (k : Below w.heap.size w w') : RelsLie w' A rs g n :=
  ⟨h.1, fun r hr => List.all_eq_true.1 hv r hr, fun hp => by
    obtain ⟨b, o, e, hb, hf⟩ := h.2 hp
    refine ⟨b, o, e, Nat.lt_of_lt_of_le hb k.size, by omega, fun i hi => ?_⟩
    obtain ⟨q0, q1, q2, q3, q4⟩ := (hf i hi).over hb k
    refine ⟨q0, q1, q2, q3, List.all_eq_true.1 hv _ (List.getElem_mem hi), q4, fun b' o' e' => ?_⟩
    have hq := (hf i hi).2.2.2.2
    by_cases hp : 0 < (rs[i]).vs.length
    · obtain ⟨b2, o2, e2, hb2, _⟩ := hq.2.2 hp
      rw [e'] at e2
      cases e2
      omega
    · exact absurd hp (by
        obtain ⟨m, hm, hl, _⟩ := relV_parts (List.all_eq_true.1 hv _ (List.getElem_mem hi))
        have : 0 < m := by cases hd : (rs[i]).d <;> rw [hd] at hm <;> simp [varsN] at hm <;> omega
        omega)⟩
set_option maxRecDepth 100000 in
set_option maxHeartbeats 16000000 in
theorem Fix_any (rs : List RelV) (fs : List FamV) (A B : Option Addr) (c1 c2 : Nat) (w : World) (ha : RelsL w A rs) (hb : FamsLie w B fs) (hT : TabIn w) :
    Calls Tryd.prog 26 #[.slice A rs.length c1, .slice B fs.length c2] w (FixRes rs fs w) := by
  have hl1 := ha.1
  have hl2 := hb.1
  have HA := Lib.hid ha
  have HB := Lib.hid hb
  have HT := Lib.hid hT
  have MB := Lib.hid (fun w => make_bounds fs.length hl2 w)
  have MF := Lib.hid (fun w => make_fams fs.length hl2 w)
  clear ha hb hT
  go_enter Tryd.func26, Tryd.ntmps26
  go_wp2_with fail
  refine (areValid_any rs fs A B c1 c2 w HA.out HB.out).mono ?_
  rintro e w1 ⟨rfl, hbl⟩
  have B1 := Lib.hid hbl
  clear hbl
  cases hv : validP rs fs with
  | false =>
    go_wp2_with fail
    refine bodyPost_ret (v := .tuple #[.slice none 0 0, .int .i64 2]) (by simp [results, Tryd.results26, go_sem]) rfl ?_
    exact ⟨.inl ⟨hv, rfl⟩, B1.out⟩
  | true =>
    have HV := Lib.hid hv
    clear hv
    have mb := MB.out
    go_wp2_with fail
    clear mb
    have B2 := Lib.hid (show Below w.heap.size w (w1.alloc (.cells (madeCells #[.int .u64 0, .int .u64 0, .int .i64 0, .int .i64 0] (fs.length * 4)) 53)) from B1.out.alloc B1.out.size _)
    have R2 := Lib.hid (show BRow (w1.alloc (.cells (madeCells #[.int .u64 0, .int .u64 0, .int .i64 0, .int .i64 0] (fs.length * 4)) 53)) w1.heap.size fs.length (upToF fs 0) from made_bounds fs.length w1)
    have G0 := Lib.hid (show w.heap.size ≤ w1.heap.size from B1.out.size)
    generalize (w1.alloc (.cells (madeCells #[.int .u64 0, .int .u64 0, .int .i64 0, .int .i64 0] (fs.length * 4)) 53)) = w2 at *
    generalize w1.heap.size = g at *
    clear B1
    go_loopw [21] (fun i wr => ∃ k : Nat, k ≤ fs.length ∧ i = .int .i64 k ∧ (fs.take k).all (fun f => okB (bdOf f)) = true ∧ BRow wr g fs.length (upToF fs k) ∧ Below w.heap.size w wr) (fun i _ => fs.length - (intOf i).toNat)
    case atStart => exact ⟨0, Nat.zero_le _, rfl, rfl, R2.out, B2.out⟩
    case round =>
      obtain ⟨k, hk, rfl, hok, hrow, hbw⟩ := hrel
      have OK := Lib.hid hok
      have RW := Lib.hid hrow
      have BW := Lib.hid hbw
      clear hok hrow hbw R2 B2
      by_cases hlt : k < fs.length
      · obtain ⟨b, o, rfl, hb, hf⟩ := HB.out.2 (by omega)
        have LI := Lib.hid ((hf k hlt).over hb BW.out)
        have TK := Lib.hid (show (fs.take (k + 1)).all (fun f => okB (bdOf f)) = okB (bdOf fs[k]) from by rw [List.take_succ_eq_append_getElem hlt, List.all_append, OK.out]; simp)
        have AL := Lib.hid (show okAll fs = true → okB (bdOf fs[k]) = true from fun h => List.all_eq_true.1 h _ (List.getElem_mem hlt))
        have ST := Lib.hid (fun b => upToF_step hlt b)
        have VA := Lib.hid (show fs[k].ok = true from List.all_eq_true.1 (by have := HV.out; simp only [validP, Bool.and_eq_true] at this; exact this.1.2) _ (List.getElem_mem hlt))
        clear hf
        generalize fs[k] = f at *
        obtain ⟨a0, a1, a2, a3, a4, a5⟩ := LI.out
        have HI := Lib.hid (And.intro a4 a5)
        clear a4 a5
        have z1 : (k : Int) < (fs.length : Int) := by omega
        have z2 : (0 : Int) ≤ (k : Int) := by omega
        go_wp2_with fail
        have hgw : g < wr.heap.size := World.rowIs.lt RW.out
        have B3 := Lib.hid (show Below wr.heap.size wr (wr.alloc (.cells #[.slice f.A f.lo.length f.c1, .slice f.B f.hi.length f.c2, .int .i64 f.mn, .int .i64 f.mx] 24)) from (Below.refl _ wr).alloc (Nat.le_refl _) _)
        generalize (wr.alloc (.cells #[.slice f.A f.lo.length f.c1, .slice f.B f.hi.length f.c2, .int .i64 f.mn, .int .i64 f.mx] 24)) = w3 at *
        have R3 := Lib.hid (RW.out.at (B3.out.block g hgw))
        have vp := fam_parts VA.out
        refine (boundsOf_any f.lo f.hi f.mn f.mx f.A f.B f.c1 f.c2 w3 (HI.out.1.over B3.out) (HI.out.2.over B3.out) vp.1 vp.2.1).mono ?_
        rintro e w4 ⟨rfl, hbl⟩
        have hg3 : g < w3.heap.size := World.rowIs.lt R3.out
        have R4 := Lib.hid (R3.out.at (hbl.block g hg3))
        have B4 := Lib.hid (BW.out.trans ((B3.out.mono BW.out.size).trans (hbl.mono (Nat.le_trans BW.out.size B3.out.size))))
        have BB := Lib.hid (show Bits (upd (upToF fs k) k (bdOf f)) from (bits_upTo (List.all_eq_true.2 fun f hf => List.all_eq_true.1 (by have := HV.out; simp only [validP, Bool.and_eq_true] at this; exact this.1.2) f hf) k).upd k _ (setN_lt vp.1) (setN_lt vp.2.1))
        obtain ⟨x0, x1, x2, x3, fz⟩ := (R4.out.to hlt).facts
        have f0 := fz (k * 4)
        have f1 := fz (k * 4 + 1)
        have f2 := fz (k * 4 + 2)
        have f3 := fz (k * 4 + 3)
        have R5 := Lib.hid (R4.out.setB k (bdOf f))
        have O5 := Lib.hid (Only.setB w4 g k (bdOf f))
        clear fz hbl a0 a1 a2 a3 vp
        go_wp2_with fail
        have NF := normalize_F k (setB w4 g k (bdOf f)) hlt R5.out BB.out
        simp only [upd_same] at NF
        refine NF.mono ?_
        rintro e w5 ⟨rfl, ho, hk5⟩
        have B5 := Lib.hid (B4.out.trans ((O5.out.trans ho).1.mono G0.out))
        have N5 := Lib.hid hk5
        clear NF ho hk5 x0 x1 x2 x3 f0 f1 f2 f3
        cases hq : okB (bdOf f) with
        | false =>
          have HQ := Lib.hid hq
          clear hq
          go_wp2_with fail
          refine bodyPost_ret (v := .tuple #[.slice none 0 0, .int .i64 60]) (by simp [results, Tryd.results26, go_sem]) rfl ?_
          exact ⟨.inr (.inl ⟨HV.out, .inl (by
            cases h : okAll fs with
            | false => rfl
            | true => exact absurd ((AL.out h).symm.trans HQ.out) (by decide)), rfl⟩), B5.out⟩
        | true =>
          have HQ := Lib.hid hq
          clear hq
          go_wp2_with fail
          go_roundw
          case rel =>
            refine ⟨k + 1, by omega, by go_num, by rw [TK.out]; exact HQ.out, ?_, B5.out⟩
            have := N5.out HQ.out
            rwa [ST.out] at this
          case measure => simp [intOf]; omega
      · obtain rfl : k = fs.length := by omega
        have OA := Lib.hid (show okAll fs = true from by have := OK.out; rwa [List.take_length] at this)
        have RF := Lib.hid (show BRow wr g fs.length (firstF fs) from by have := RW.out; rwa [upToF_all] at this)
        have VV := HV.out
        simp only [validP, Bool.and_eq_true] at VV
        have SA := Lib.hid (settle_any (rc := c1) (cap := fs.length) wr hl2 (HA.out.lies VV.2 G0.out BW.out) RF.out (fine_first VV.1.2 OA.out))
        clear OK RW VV
        go_wp2_with fail
        refine SA.out.mono ?_
        rintro e w6 ⟨b, H, hs, rfl, hk6, hf6⟩
        have B6 := Lib.hid (BW.out.trans (hk6.1.mono G0.out))
        have HS := Lib.hid hs
        have H6 := Lib.hid hf6
        clear SA hs hk6 hf6
        cases b with
        | false =>
          go_wp2_with fail
          refine bodyPost_ret (v := .tuple #[.slice none 0 0, .int .i64 60]) (by simp [results, Tryd.results26, go_sem]) rfl ?_
          exact ⟨.inr (.inl ⟨HV.out, .inr ⟨H, HS.out⟩, rfl⟩), B6.out⟩
        | true =>
          have mf := MF.out
          go_wp2_with fail
          clear mf
          obtain ⟨hrow, hfin⟩ := H6.out (by simp)
          have RH := Lib.hid hrow
          have FH := Lib.hid hfin
          clear hrow hfin H6
          have hg6 : g < w6.heap.size := World.rowIs.lt RH.out
          have hw6 : w.heap.size ≤ w6.heap.size := B6.out.size
          obtain ⟨C0, hC0⟩ := made_fams fs.length w6
          have RC := Lib.hid hC0
          have B7 := Lib.hid (show Below w6.heap.size w6 (w6.alloc (.cells (madeCells #[.slice none 0 0, .slice none 0 0, .int .i64 0, .int .i64 0] (fs.length * 4)) 24)) from (Below.refl _ w6).alloc (Nat.le_refl _) _)
          clear hC0
          generalize (w6.alloc (.cells (madeCells #[.slice none 0 0, .slice none 0 0, .int .i64 0, .int .i64 0] (fs.length * 4)) 24)) = w7 at *
          obtain ⟨g2, hg2⟩ : ∃ g2, w6.heap.size = g2 := ⟨_, rfl⟩
          have HG2 := Lib.hid hg2
          rw [hg2] at RC B7 hg6 hw6 ⊢
          clear hg2
          go_loopw [46] (fun i wx => ∃ (k : Nat) (C : Nat → Value), k ≤ fs.length ∧ i = .int .i64 k ∧ wx.rowIs g2 24 (fs.length * 4) C ∧ Below g2 w6 wx ∧ OutC wx g2 k H C) (fun i _ => fs.length - (intOf i).toNat)
          case atStart => exact ⟨0, C0, Nat.zero_le _, rfl, RC.out, B7.out, fun i hi => absurd hi (Nat.not_lt_zero i)⟩
          case round =>
            obtain ⟨k, C, hk, rfl, hrc, hbw, hoc⟩ := hrel
            have RX := Lib.hid hrc
            have BX := Lib.hid hbw
            have OX := Lib.hid hoc
            clear hrc hbw hoc RC B7
            by_cases hlt : k < fs.length
            · have RHX := Lib.hid (RH.out.at (BX.out.block g hg6))
              have a0 := RHX.out.cell hlt 0 (by decide)
              have a1 := RHX.out.cell hlt 1 (by decide)
              have a2 := RHX.out.cell hlt 2 (by decide)
              have a3 := RHX.out.cell hlt 3 (by decide)
              simp only [bdCell, Nat.add_zero] at a0 a1 a2 a3
              have z1 : (k : Int) < (fs.length : Int) := by omega
              have z2 : (0 : Int) ≤ (k : Int) := by omega
              go_wp2_with fail
              have hgx : g2 < wr.heap.size := World.rowIs.lt RX.out
              have B8 := Lib.hid (show Below wr.heap.size wr (wr.alloc (.cells #[.int .u64 ((H k).lo : Nat), .int .u64 ((H k).hi : Nat), .int .i64 (H k).mn, .int .i64 (H k).mx] 53)) from (Below.refl _ wr).alloc (Nat.le_refl _) _)
              generalize (wr.alloc (.cells #[.int .u64 ((H k).lo : Nat), .int .u64 ((H k).hi : Nat), .int .i64 (H k).mn, .int .i64 (H k).mx] 53)) = w8 at *
              have BT := Lib.hid (show Below w.heap.size w w8 from B6.out.trans ((BX.out.mono hw6).trans (B8.out.mono (by omega))))
              refine (family_any (H k).lo (H k).hi (H k).mn (H k).mx w8 (FH.out k).1 (FH.out k).2.1 (HT.out.below BT.out HT.out.lt)).mono ?_
              rintro e w9 ⟨v1, v2, rfl, hb1, hb2, _, hbl⟩
              have hg8 : g2 < w8.heap.size := Nat.lt_of_lt_of_le hgx B8.out.size
              have R9 := Lib.hid (World.rowIs.of_block RX.out ((hbl.block g2 hg8).trans (B8.out.block g2 hgx)))
              have Q1 := Lib.hid hb1
              have Q2 := Lib.hid hb2
              have B9 := Lib.hid hbl
              obtain ⟨G1, p1, rfl⟩ := hb1.1
              obtain ⟨G2, p2, rfl⟩ := hb2.1
              clear hb1 hb2 hbl a0 a1 a2 a3
              have x0 := World.rowIs.cell R9.out (i := k * 4) (by omega)
              have x1 := World.rowIs.cell R9.out (i := k * 4 + 1) (by omega)
              have x2 := World.rowIs.cell R9.out (i := k * 4 + 2) (by omega)
              have x3 := World.rowIs.cell R9.out (i := k * 4 + 3) (by omega)
              have f0 := World.rowIs.frozen R9.out (k * 4)
              have f1 := World.rowIs.frozen R9.out (k * 4 + 1)
              have f2 := World.rowIs.frozen R9.out (k * 4 + 2)
              have f3 := World.rowIs.frozen R9.out (k * 4 + 3)
              have R10 := Lib.hid (row_set4 R9.out k (.slice G1 (bitsOf 64 0 (H k).lo).length p1) (.slice G2 (bitsOf 64 0 (H k).hi).length p2) (.int .i64 (H k).mn) (.int .i64 (H k).mx))
              have O10 := Lib.hid (only4 w9 g2 k (.slice G1 (bitsOf 64 0 (H k).lo).length p1) (.slice G2 (bitsOf 64 0 (H k).hi).length p2) (.int .i64 (H k).mn) (.int .i64 (H k).mx))
              go_wp2_with fail
              go_roundw
              case rel =>
                refine ⟨k + 1, _, by omega, by go_num, R10.out, BX.out.trans ((B8.out.mono (Nat.le_of_lt hgx)).trans ((B9.out.mono (Nat.le_of_lt hg8)).trans O10.out.1)), ?_⟩
                refine OX.out.next (fun b hb hlt => (O10.out.2 b (by omega)).trans ((B9.out.block b (Nat.lt_of_lt_of_le hlt B8.out.size)).trans (B8.out.block b hlt))) ?_ ?_
                · exact Q1.out.keep hg8 fun b hb _ => O10.out.2 b (by omega)
                · exact Q2.out.keep hg8 fun b hb _ => O10.out.2 b (by omega)
              case measure => simp [intOf]; omega
            · obtain rfl : k = fs.length := by omega
              go_wp2_with fail
              refine bodyPost_ret (v := .tuple #[.slice (some ⟨g2, 0, none⟩) fs.length fs.length, .int .i64 0]) (by simp [results, Tryd.results26, go_sem]) rfl ?_
              exact ⟨.inr (.inr ⟨HV.out, OA.out, H, g2, HS.out, FH.out, rfl, hw6, OX.out.fams RX.out⟩), B6.out.trans (BX.out.mono hw6)⟩
end Go.Proofs.YthakhdbakmlooaaDoor
