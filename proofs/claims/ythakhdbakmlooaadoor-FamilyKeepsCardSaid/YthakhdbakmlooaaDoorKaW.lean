/-
  The law FamilyKeeps where something is not light, or the numbers of sets and of families differ.
-/
import Derived.Test.YthakhdbakmlooaaDoorKaU
import Derived.Test.YthakhdbakmlooaaDoorKaV
namespace Go.Proofs.YthakhdbakmlooaaDoor
set_option linter.unusedSimpArgs false
set_option linter.unusedVariables false
open Go Go.RowKit Go.Shelf Go.Ev

theorem FamsC.over {w w' : World} {A : Option Addr} {fs : List FamV} (h : FamsC w A fs) (k : Below w.heap.size w w') : FamsC w' A fs := fun hp => by
  obtain ⟨b, o, e, hb, hf⟩ := h hp
  exact ⟨b, o, e, Nat.lt_of_lt_of_le hb k.size, fun i hi => (hf i hi).over hb k⟩
theorem RelsC.over {w w' : World} {A : Option Addr} {rs : List RelV} (h : RelsC w A rs) (k : Below w.heap.size w w') : RelsC w' A rs := fun hp => by
  obtain ⟨b, o, e, hb, hf⟩ := h hp
  exact ⟨b, o, e, Nat.lt_of_lt_of_le hb k.size, fun i hi => (hf i hi).over hb k⟩
set_option maxRecDepth 100000 in
set_option maxHeartbeats 8000000 in
theorem FamilyKeeps_heavy (rs : List RelV) (fs : List FamV) (n3 : Nat) (A B C : Option Addr) (c1 c2 c3 : Nat) (w : World) (hn1 : rs.length ≤ 9223372036854775807) (hn2 : fs.length ≤ 9223372036854775807) (ha : RelsC w A rs) (hb : FamsC w B fs) (hT : TabIn w)
    (h : ((fs.all famLight && decide (fs.length ≤ 50)) && ((rs.all relLean && decide (rs.length ≤ 110)) && decide (n3 = fs.length))) = false) :
    Calls Tryd.prog 5 #[.slice A rs.length c1, .slice B fs.length c2, .slice C n3 c3] w fun e w' => e = .returned (.bool true) ∧ Below w.heap.size w w' := by
  have hw0 := hT.lt
  have AW := Lib.hid (fun w1 (h : Below w.heap.size w w1) => fawake_any w1 (hT.below h hw0))
  have LT := Lib.hid (fun w1 (h : Below w.heap.size w w1) => lights_any fs B c2 w1 hn2 (hb.over h))
  have LN := Lib.hid (fun w1 (h : Below w.heap.size w w1) => leans_any rs A c1 w1 hn1 (ha.over h))
  have B0 := Lib.hid (Below.refl w.heap.size w)
  clear hT hw0 ha hb
  cases hL1 : (fs.all famLight && decide (fs.length ≤ 50)) with
  | false =>
    rw [hL1] at LT
    clear h hL1 hn1 hn2
    generalize fs.length = n2 at *
    generalize rs.length = n1 at *
    go_enter Tryd.func5, Tryd.ntmps5
    go_wp2_with (first | (go_at_call 7; refine (LT.out _ B0.out).mono ?_; rintro e y1 ⟨rfl, hb⟩; have B1 := Lib.hid hb; clear hb LT) | (go_at_call 8; refine (AW.out _ B1.out).mono ?_; rintro e y9 ⟨rfl, hb⟩; have B2 := Lib.hid (B1.out.trans (hb.mono B1.out.size)); clear hb AW))
    go_ret
    exact ⟨rfl, B2.out⟩
  | true =>
    rw [hL1] at LT h
    rw [Bool.true_and] at h
    cases hL2 : (rs.all relLean && decide (rs.length ≤ 110)) with
    | false =>
      rw [hL2] at LN
      clear h hL1 hL2 hn1 hn2
      generalize fs.length = n2 at *
      generalize rs.length = n1 at *
      go_enter Tryd.func5, Tryd.ntmps5
      go_wp2_with (first | (go_at_call 7; refine (LT.out _ B0.out).mono ?_; rintro e y1 ⟨rfl, hb⟩; have B1 := Lib.hid hb; clear hb LT) | (go_at_call 23; refine (LN.out _ B1.out).mono ?_; rintro e y2 ⟨rfl, hb⟩; have B2 := Lib.hid (B1.out.trans (hb.mono B1.out.size)); clear hb LN) | (go_at_call 8; refine (AW.out _ B2.out).mono ?_; rintro e y9 ⟨rfl, hb⟩; have B3 := Lib.hid (B2.out.trans (hb.mono B2.out.size)); clear hb AW))
      go_ret
      exact ⟨rfl, B3.out⟩
    | true =>
      rw [hL2] at LN h
      rw [Bool.true_and, decide_eq_false_iff_not] at h
      clear hL1 hL2 hn1 hn2
      generalize fs.length = n2 at *
      generalize rs.length = n1 at *
      have z1 : ¬ (n3 : Int) = (n2 : Int) := by omega
      clear h
      go_enter Tryd.func5, Tryd.ntmps5
      go_wp2_with (first | (go_at_call 7; refine (LT.out _ B0.out).mono ?_; rintro e y1 ⟨rfl, hb⟩; have B1 := Lib.hid hb; clear hb LT) | (go_at_call 23; refine (LN.out _ B1.out).mono ?_; rintro e y2 ⟨rfl, hb⟩; have B2 := Lib.hid (B1.out.trans (hb.mono B1.out.size)); clear hb LN) | (go_at_call 8; refine (AW.out _ B2.out).mono ?_; rintro e y9 ⟨rfl, hb⟩; have B3 := Lib.hid (B2.out.trans (hb.mono B2.out.size)); clear hb AW))
      go_ret
      exact ⟨rfl, B3.out⟩
end Go.Proofs.YthakhdbakmlooaaDoor

/-
  FamilyKeeps, plainly: what the law asks of what Fix answers.
-/
namespace Go.Proofs.YthakhdbakmlooaaDoor
set_option linter.unusedSimpArgs false
set_option linter.unusedVariables false
open Go Go.RowKit Go.Shelf Go.Ev

/-- a set is one of a family's -/
def hasF (f : FamV) (s : List Int) : Bool := hasFB f.lo f.hi f.mn f.mx s
def inUp (fs : List FamV) (ls : List (List Int)) (k : Nat) : Bool := (List.range k).all fun i => hasF (fs.getD i default) (ls.getD i [])
theorem inUp_succ (fs : List FamV) (ls : List (List Int)) (k : Nat) (h : k < fs.length) : inUp fs ls (k + 1) = (inUp fs ls k && hasF fs[k] (ls.getD k [])) := by
  unfold inUp
  rw [List.range_succ, List.all_append]
  simp only [List.all_cons, List.all_nil, Bool.and_true]
  rw [List.getD_eq_getElem?_getD (l := fs), List.getElem?_eq_getElem h]
  rfl
theorem inUp_get {fs : List FamV} {ls : List (List Int)} {k : Nat} (h : inUp fs ls k = true) (i : Nat) (hi : i < k) (hf : i < fs.length) : hasF fs[i] (ls.getD i []) = true := by
  have := List.all_eq_true.1 h i (List.mem_range.2 hi)
  rw [List.getD_eq_getElem?_getD (l := fs), List.getElem?_eq_getElem hf] at this
  exact this
def holdUp (rs : List RelV) (ls : List (List Int)) (k : Nat) : Bool := (rs.take k).all fun r => holdPB r.d r.vs r.N ls
theorem holdUp_succ (rs : List RelV) (ls : List (List Int)) (k : Nat) (h : k < rs.length) : holdUp rs ls (k + 1) = (holdUp rs ls k && holdPB rs[k].d rs[k].vs rs[k].N ls) := by
  unfold holdUp
  rw [List.take_succ_eq_append_getElem h, List.all_append]
  simp only [List.all_cons, List.all_nil, Bool.and_true]
theorem holdUp_all (rs : List RelV) (ls : List (List Int)) : holdUp rs ls rs.length = true ↔ ∀ r ∈ rs, holdPB r.d r.vs r.N ls = true := by
  unfold holdUp
  rw [List.take_length, List.all_eq_true]
theorem IntsF.over {w w' : World} {A : Option Addr} {xs : List Int} (h : IntsF w A xs) (k : Below w.heap.size w w') : IntsF w' A xs := ⟨h.1, fun hp => by
  obtain ⟨b, off, e, hb, hc⟩ := h.2 hp
  exact ⟨b, off, e, Nat.lt_of_lt_of_le hb k.size, fun i hi => (k.cell (p := ⟨b, off + i, none⟩) hb).trans (hc i hi)⟩⟩
/-- the lists' cells -/
theorem LLF.get {w : World} {A : Option Addr} {ls : List (List Int)} (h : LLF w A ls) : ∃ (b off : Nat) (AF : Nat → Option Addr) (CF : Nat → Nat), ∀ i, i < ls.length →
    A = some ⟨b, off, none⟩ ∧ b < w.heap.size ∧ w.cell? ⟨b, off + i, none⟩ = some (.slice (AF i) (ls.getD i []).length (CF i)) ∧ IntsF w (AF i) (ls.getD i []) := by
  by_cases hp : 0 < ls.length
  · obtain ⟨b, off, e, hb, AF, CF, _, hc⟩ := h hp
    refine ⟨b, off, AF, CF, fun i hi => ?_⟩
    rw [List.getD_eq_getElem?_getD, List.getElem?_eq_getElem hi]
    exact ⟨e, hb, (hc i hi).1, (hc i hi).2⟩
  · exact ⟨0, 0, fun _ => none, fun _ => 0, fun i hi => absurd hi (by omega)⟩
/-- what Fix answers, read as families -/
theorem fams_read0 {w : World} {g n : Nat} {H : Nat → BdV} (hn : n ≤ 1000000) (hH : Fine H) (h : FamsOut w g n H) :
    ∃ fs : List FamV, fs.length = n ∧ FamsLie w (some ⟨g, 0, none⟩) fs ∧ ∀ i (hi : i < fs.length), fs[i].lo = bi (H i).lo ∧ fs[i].hi = bi (H i).hi ∧ fs[i].mn = (H i).mn ∧ fs[i].mx = (H i).mx := by
  by_cases hp : n = 0
  · subst hp
    exact ⟨[], rfl, ⟨Nat.zero_le _, fun h => absurd h (Nat.lt_irrefl 0)⟩, fun i hi => absurd hi (Nat.not_lt_zero i)⟩
  · obtain ⟨v1, v2, hc, _⟩ := h 0 (by omega)
    refine fams_read hn hH ?_ h
    simp only [World.cell?] at hc
    by_cases hg : g < w.heap.size
    · exact hg
    · rw [Array.getElem?_eq_none (by omega)] at hc
      cases hc
theorem keeps_in {rs : List RelV} {fs : List FamV} {ls : List (List Int)} (hv : validP rs fs = true) (hl : ls.length = fs.length)
    (hin : inUp fs ls fs.length = true) (hh : holdUp rs ls rs.length = true) :
    okAll fs = true ∧ ∀ b H, Sett rs fs.length (firstF fs) b H → b = true ∧ (Fine H → ∀ i, i < fs.length → hasFB (bi (H i).lo) (bi (H i).hi) (H i).mn (H i).mx (ls.getD i []) = true) := by
  have hf := hv
  simp only [validP, Bool.and_eq_true] at hf
  have one : ∀ i (h : i < fs.length), elemsB (ls.getD i []) = true ∧ InB (bdOf fs[i]) (wordsOf ls i) := fun i h =>
    (has_inB (List.all_eq_true.1 hf.1.2 _ (List.getElem_mem h)) _).1 (inUp_get hin i h h)
  have he : ∀ l ∈ ls, elemsB l = true := fun l hm => by
    obtain ⟨i, hi, rfl⟩ := List.mem_iff_getElem.1 hm
    have := (one i (by omega)).1
    rwa [List.getD_eq_getElem?_getD, List.getElem?_eq_getElem hi] at this
  obtain ⟨k1, k2⟩ := keeps_all hv hl he (fun i h => (one i h).2) ((holdUp_all rs ls).1 hh)
  refine ⟨k1, fun b H hs => ⟨(k2 b H hs).1, fun hF i hi => (has_out (hF i) _).2 ⟨(one i hi).1, (k2 b H hs).2 i⟩⟩⟩
theorem keeps_fix {rs : List RelV} {ls : List (List Int)} {AF : Nat → Option Addr} {CF : Nat → Nat} {n : Nat} (hv : validP rs (setFams ls AF CF n) = true) (hl : ls.length = n) :
    okAll (setFams ls AF CF n) = true ∧ ∀ b H, Sett rs n (firstF (setFams ls AF CF n)) b H → b = holdUp rs ls rs.length ∧
      (b = true → Fine H → ∀ i, i < n → (validFB (bi (H i).lo) (bi (H i).hi) (H i).mn (H i).mx && decide (bi (H i).lo = bi (H i).hi)) = true ∧ hasFB (bi (H i).lo) (bi (H i).hi) (H i).mn (H i).mx (ls.getD i []) = true) := by
  obtain ⟨he, k1, k2⟩ := fixed_all (ls := ls) hv (by rw [setFams_length, hl]) (fun i h => by rw [setFams_get]; exact ⟨rfl, rfl, rfl, rfl⟩)
  rw [setFams_length] at k2
  refine ⟨k1, fun b H hs => ?_⟩
  obtain ⟨q1, q2⟩ := k2 b H hs
  refine ⟨?_, fun hb hF i hi => ?_⟩
  · rw [Bool.eq_iff_iff, holdUp_all]
    exact q1
  · obtain ⟨x1, x2, x3, x4⟩ := q2 hb i
    refine ⟨fixed_out (hF i) (x1.trans x2.symm), (has_out (hF i) _).2 ⟨elems_getD he i, ?_⟩⟩
    refine ⟨fun t h => ?_, fun t h => ?_, ?_, ?_⟩
    · rw [x1] at h; exact h
    · rw [x2]; exact h
    · rw [x3]; exact Int.le_refl _
    · rw [x4]; exact Int.le_refl _
end Go.Proofs.YthakhdbakmlooaaDoor
