/-
  The normal form as a family: the program's.
-/
import Derived.Deep.WholeRow
import Derived.Laws.ResultCell
import Derived.Test.YtcbjkclajkjicaaGreatDoorFzR
import Derived.Test.YtcbjkclajkjicaaGreatDoorFaB
import Derived.Deep.CutRange
import Derived.Laws.Bits64
namespace Go.Proofs.YtcbjkclajkjicaaGreatDoor
set_option linter.unusedSimpArgs false
open Go Go.RowKit Go.Shelf Go.Ev

theorem famCells_facts {w : World} {B : Nat} (h : famCells w B) : w.cell? ⟨B, 0, none⟩ = some (.slice none 0 0) ∧ w.cell? ⟨B, 1, none⟩ = some (.slice none 0 0) ∧ w.cell? ⟨B, 2, none⟩ = some (.int .i64 0) ∧ w.cell? ⟨B, 3, none⟩ = some (.int .i64 0) ∧ ∀ o, w.frozen? ⟨B, o, none⟩ = false := by
  unfold famCells at h
  refine ⟨?_, ?_, ?_, ?_, fun o => by simp [World.frozen?, h]⟩ <;> (simp only [World.cell?, h]; rfl)
theorem results_row_tmp {P : Program} {fn : Func} {p u : Tmp} {ty : TypeId} (h : fn.results = #[.cell p ty, .tmp u]) (tmps : Array Value) (w : World) (g : Nat) (t : TypeId) (cs : Array Value) (fr : Nat × Nat) (d : TypeDesc)
    (hp : tmps.getD p undef = .pointer (some ⟨g, 0, none⟩)) (hg : w.heap[g]? = some (.cells cs t fr))
    (hu : P.underlying ty = some d) (hd : (match d with | .struct _ | .array _ _ => true | _ => false) = true) (hi : (P.info? ty).map (·.size) = some cs.size) :
    (results fn tmps).run P w = .ok (.tuple #[.agg cs, tmps.getD u undef]) w := by
  rw [results_cell_tmp h, hp]
  simp [asAddr, run_loadVar_row w g t ty cs fr d hg hu hd hi]
/-- a family handed out: two lists of a word's numbers, and two sizes -/
def FamOut (W : World) (base lo hi : Nat) (mn mx : Int) (v : Value) : Prop := ∃ v1 v2, v = .agg #[v1, v2, .int .i64 mn, .int .i64 mx] ∧ BitRow W base v1 lo ∧ BitRow W base v2 hi ∧ (∀ b, v1.ownBlock = some b → v2.ownBlock ≠ some b)
end Go.Proofs.YtcbjkclajkjicaaGreatDoor

/-
  Families that are fixed: the program's.
-/
namespace Go.Proofs.YtcbjkclajkjicaaGreatDoor
set_option linter.unusedSimpArgs false
open Go Go.RowKit Go.Shelf Go.Ev

end Go.Proofs.YtcbjkclajkjicaaGreatDoor

/-
  Normal: the program's.
-/
namespace Go.Proofs.YtcbjkclajkjicaaGreatDoor
set_option linter.unusedSimpArgs false
open Go Go.RowKit Go.Shelf Go.Ev

/-- what a normal form comes out as, where bounds are given -/
def NormRes (lo hi : Nat) (mn mx : Int) (base : Nat) (e : Ending) (w' : World) : Prop :=
  if okN lo hi mn mx = true then ∃ v, e = .returned (.tuple #[v, .int .i64 0]) ∧ FamOut w' base (nlo lo hi mn) (nhi lo hi mn mx) (nmn lo mn) (nmx hi mx) v
    else e = .returned (.tuple #[.agg #[.slice none 0 0, .slice none 0 0, .int .i64 0, .int .i64 0], .int .i64 60])
end Go.Proofs.YtcbjkclajkjicaaGreatDoor

/-
  Which sets a family stands for: the program's Has.
-/
namespace Go.Proofs.YtcbjkclajkjicaaGreatDoor
set_option linter.unusedSimpArgs false
open Go Go.RowKit Go.Shelf Go.Ev

def hasFB (lo hi : List Int) (mn mx : Int) (s : List Int) : Bool :=
  validFB lo hi mn mx && (elemsB s && (decide (sub64 (setN lo) (setN s) = 0) && (decide (sub64 (setN s) (setN hi) = 0) && (decide (mn ≤ s.length) && decide ((s.length : Int) ≤ mx)))))
end Go.Proofs.YtcbjkclajkjicaaGreatDoor

/-
  Which sets a family stands for: the document's Has.
-/
namespace Go.Proofs.YtcbjkclajkjicaaGreatDoor
set_option linter.unusedSimpArgs false
open Go Go.RowKit Go.Shelf Go.Ev

end Go.Proofs.YtcbjkclajkjicaaGreatDoor

/-
  Plain facts of words, their lists and normal forms.
-/
namespace Go.Proofs.YtcbjkclajkjicaaGreatDoor
open Go Go.RowKit Go.Ev

/-- a word's numbers as a list -/
def bi (x : Nat) : List Int := (bitsOf 64 0 x).map fun (t : Nat) => (t : Int)
theorem bits_mem {x : Nat} (hx : x < 18446744073709551616) (t : Nat) : t ∈ bitsOf 64 0 x ↔ t < 64 ∧ x.testBit t = true := by
  rw [← bl_all hx]
  simp [bl]
theorem bi_mem {x : Nat} (hx : x < 18446744073709551616) (v : Int) : v ∈ bi x ↔ inR v = true ∧ x.testBit v.toNat = true := by
  unfold bi
  rw [List.mem_map]
  constructor
  · rintro ⟨t, ht, rfl⟩
    rw [bits_mem hx] at ht
    refine ⟨?_, by simpa using ht.2⟩
    simp only [inR, Bool.and_eq_true, decide_eq_true_eq]
    omega
  · rintro ⟨h1, h2⟩
    simp only [inR, Bool.and_eq_true, decide_eq_true_eq] at h1
    exact ⟨v.toNat, (bits_mem hx _).2 ⟨by omega, h2⟩, by omega⟩
theorem bi_pair {x : Nat} (hx : x < 18446744073709551616) : (bi x).Pairwise (· < ·) := by
  unfold bi
  rw [← bl_all hx, List.pairwise_map]
  unfold bl
  refine List.Pairwise.imp ?_ (List.pairwise_lt_range.filter _)
  intro a b h
  omega
theorem bi_len {x : Nat} (hx : x < 18446744073709551616) : (bi x).length = ones x := by
  unfold bi
  rw [List.length_map]
  exact (ones_len 64 0 x hx).symm
theorem asc_of_pair : ∀ {l : List Int}, l.Pairwise (· < ·) → ascB l = true
  | [], _ => rfl
  | [_], _ => rfl
  | x :: y :: r, h => by
    have h1 := List.pairwise_cons.1 h
    rw [ascB, Bool.and_eq_true]
    exact ⟨decide_eq_true (h1.1 y (by simp)), asc_of_pair h1.2⟩
theorem pair_of_asc {xs : List Int} (h : ascB xs = true) : xs.Pairwise (· < ·) := by
  rw [List.pairwise_iff_getElem]
  exact fun i j hi hj hij => ascB_lt h i j hij hj
theorem pair_ext : ∀ {l m : List Int}, l.Pairwise (· < ·) → m.Pairwise (· < ·) → (∀ x, x ∈ l ↔ x ∈ m) → l = m
  | [], [], _, _, _ => rfl
  | [], y :: m, _, _, h => absurd ((h y).2 (by simp)) (by simp)
  | x :: l, [], _, _, h => absurd ((h x).1 (by simp)) (by simp)
  | x :: l, y :: m, hl, hm, h => by
    have l1 := List.pairwise_cons.1 hl
    have m1 := List.pairwise_cons.1 hm
    have e : x = y := by
      have a1 := (h x).1 (by simp)
      have a2 := (h y).2 (by simp)
      rcases List.mem_cons.1 a1 with a1 | a1
      · exact a1
      · rcases List.mem_cons.1 a2 with a2 | a2
        · exact a2.symm
        · have := m1.1 x a1; have := l1.1 y a2; omega
    subst e
    rw [pair_ext l1.2 m1.2 fun z => ?_]
    have hz := h z
    simp only [List.mem_cons] at hz
    constructor
    · intro hzl
      rcases hz.1 (Or.inr hzl) with rfl | h2
      · have := l1.1 z hzl; omega
      · exact h2
    · intro hzm
      rcases hz.2 (Or.inr hzm) with rfl | h2
      · have := m1.1 z hzm; omega
      · exact h2
theorem bi_all {x : Nat} (hx : x < 18446744073709551616) : (bi x).all inR = true := by
  rw [List.all_eq_true]
  exact fun v hv => ((bi_mem hx v).1 hv).1
theorem bi_elems {x : Nat} (hx : x < 18446744073709551616) : elemsB (bi x) = true := by
  unfold elemsB
  rw [asc_of_pair (bi_pair hx), bi_all hx]
  rfl
theorem setN_bi {x : Nat} (hx : x < 18446744073709551616) : setN (bi x) = x := by
  refine Nat.eq_of_testBit_eq fun t => ?_
  rw [setN_test (bi_all hx), Bool.eq_iff_iff, List.contains_iff_mem, bi_mem hx]
  simp only [inR, Bool.and_eq_true, decide_eq_true_eq, Int.toNat_natCast]
  constructor
  · exact fun h => h.2
  · intro h
    refine ⟨⟨by omega, ?_⟩, h⟩
    have : t < 64 := by
      refine Nat.lt_of_not_le fun hn => ?_
      rw [Nat.testBit_lt_two_pow (Nat.lt_of_lt_of_le hx (Nat.pow_le_pow_right (n := 2) (by decide) hn))] at h
      cases h
    omega
theorem elems_all {l : List Int} (h : elemsB l = true) : l.all inR = true := by
  unfold elemsB at h
  rw [Bool.and_eq_true] at h
  exact h.2
theorem elems_asc {l : List Int} (h : elemsB l = true) : ascB l = true := by
  unfold elemsB at h
  rw [Bool.and_eq_true] at h
  exact h.1
theorem bi_setN {l : List Int} (h : elemsB l = true) : bi (setN l) = l := by
  have h2 := elems_all h
  refine pair_ext (bi_pair (setN_lt h2)) (pair_of_asc (elems_asc h)) fun v => ?_
  rw [bi_mem (setN_lt h2), setN_test h2, List.contains_iff_mem]
  constructor
  · rintro ⟨h3, h4⟩
    simp only [inR, Bool.and_eq_true, decide_eq_true_eq] at h3
    rwa [show ((v.toNat : Nat) : Int) = v by omega] at h4
  · intro h3
    have h4 := List.all_eq_true.1 h2 v h3
    refine ⟨h4, ?_⟩
    simp only [inR, Bool.and_eq_true, decide_eq_true_eq] at h4
    rwa [show ((v.toNat : Nat) : Int) = v by omega]
theorem len_setN {l : List Int} (h : elemsB l = true) : l.length = ones (setN l) := by
  rw [← bi_len (setN_lt (elems_all h)), bi_setN h]
theorem setN_inj {l m : List Int} (hl : elemsB l = true) (hm : elemsB m = true) : (setN l = setN m) ↔ l = m :=
  ⟨fun h => by rw [← bi_setN hl, ← bi_setN hm, h], fun h => by rw [h]⟩
theorem sub_bit {a b : Nat} (hb : b < 18446744073709551616) (t : Nat) : (sub64 a b).testBit t = (a.testBit t && (decide (t < 64) && !b.testBit t)) := by
  have e : 18446744073709551615 - b = 2 ^ 64 - (b + 1) := by
    have : (2 : Nat) ^ 64 = 18446744073709551616 := by decide
    omega
  unfold sub64
  rw [Nat.testBit_and, e, Nat.testBit_two_pow_sub_succ (show b < 2 ^ 64 from hb)]
theorem sub_zero {a b : Nat} (ha : a < 18446744073709551616) (hb : b < 18446744073709551616) : sub64 a b = 0 ↔ ∀ t, a.testBit t = true → b.testBit t = true := by
  constructor
  · intro h t ht
    have h1 := sub_bit (a := a) hb t
    rw [h, Nat.zero_testBit, ht] at h1
    have h2 : t < 64 := by
      refine Nat.lt_of_not_le fun hn => ?_
      rw [Nat.testBit_lt_two_pow (Nat.lt_of_lt_of_le ha (Nat.pow_le_pow_right (n := 2) (by decide) hn))] at ht
      cases ht
    rw [decide_eq_true h2] at h1
    cases hb2 : b.testBit t
    · rw [hb2] at h1; cases h1
    · rfl
  · intro h
    refine Nat.eq_of_testBit_eq fun t => ?_
    rw [sub_bit hb, Nat.zero_testBit]
    cases ha2 : a.testBit t
    · rfl
    · rw [h t ha2]; simp
theorem ones_eq {x : Nat} (hx : x < 18446744073709551616) : ones x = (List.range 64).countP fun t => x.testBit t := by
  rw [show ones x = (bitsOf 64 0 x).length from ones_len 64 0 x hx, ← bl_all hx, List.countP_eq_length_filter]
  rfl
theorem countP_le {p q : Nat → Bool} : ∀ (l : List Nat), (∀ t, p t = true → q t = true) → l.countP p ≤ l.countP q
  | [], _ => by simp
  | x :: l, h => by
    have ih := countP_le l h
    rw [List.countP_cons, List.countP_cons]
    cases hp : p x
    · simp only [Bool.false_eq_true, if_false]; omega
    · rw [h x hp]; simp only [if_true]; omega
theorem countP_same {p q : Nat → Bool} : ∀ (l : List Nat), (∀ t, p t = true → q t = true) → l.countP q ≤ l.countP p → ∀ t ∈ l, q t = true → p t = true
  | [], _, _, t, ht, _ => by cases ht
  | x :: l, h, hc, t, ht, hq => by
    have ih := countP_same l h
    have hle := countP_le l h
    rw [List.countP_cons, List.countP_cons] at hc
    cases hpx : p x with
    | true =>
      rw [hpx, h x hpx] at hc
      simp only [if_true] at hc
      rcases List.mem_cons.1 ht with rfl | ht
      · exact hpx
      · exact ih (by omega) t ht hq
    | false =>
      rw [hpx] at hc
      cases hqx : q x with
      | true => rw [hqx] at hc; simp only [if_true, Bool.false_eq_true, if_false] at hc; omega
      | false =>
        rw [hqx] at hc
        simp only [Bool.false_eq_true, if_false] at hc
        rcases List.mem_cons.1 ht with rfl | ht
        · rw [hqx] at hq; cases hq
        · exact ih (by omega) t ht hq
theorem ones_mono {a b : Nat} (ha : a < 18446744073709551616) (hb : b < 18446744073709551616) (h : sub64 a b = 0) : ones a ≤ ones b := by
  rw [ones_eq ha, ones_eq hb]
  exact countP_le _ ((sub_zero ha hb).1 h)
theorem ones_same {a b : Nat} (ha : a < 18446744073709551616) (hb : b < 18446744073709551616) (h : sub64 a b = 0) (hc : ones b ≤ ones a) : a = b := by
  rw [ones_eq ha, ones_eq hb] at hc
  have h1 := (sub_zero ha hb).1 h
  have h2 := countP_same _ h1 hc
  refine Nat.eq_of_testBit_eq fun t => ?_
  by_cases ht : t < 64
  · have h3 := h1 t
    have h4 := h2 t (List.mem_range.2 ht)
    cases p : a.testBit t <;> cases q : b.testBit t <;> simp_all
  · rw [Nat.testBit_lt_two_pow (Nat.lt_of_lt_of_le ha (Nat.pow_le_pow_right (n := 2) (by decide) (show 64 ≤ t by omega))), Nat.testBit_lt_two_pow (Nat.lt_of_lt_of_le hb (Nat.pow_le_pow_right (n := 2) (by decide) (show 64 ≤ t by omega)))]
theorem ones_le64 {x : Nat} (hx : x < 18446744073709551616) : ones x ≤ 64 := by
  rw [ones_eq hx]
  have := List.countP_le_length (p := fun t => x.testBit t) (l := List.range 64)
  simpa using this
theorem sub_self {a : Nat} (ha : a < 18446744073709551616) : sub64 a a = 0 := (sub_zero ha ha).2 fun _ h => h
theorem sub_trans {a b c : Nat} (ha : a < 18446744073709551616) (hb : b < 18446744073709551616) (hc : c < 18446744073709551616) (h : sub64 a b = 0) (k : sub64 b c = 0) : sub64 a c = 0 :=
  (sub_zero ha hc).2 fun t ht => (sub_zero hb hc).1 k t ((sub_zero ha hb).1 h t ht)
theorem okN_parts {L H : Nat} {mn mx : Int} : okN L H mn mx = true ↔ sub64 L H = 0 ∧ nmn L mn ≤ nmx H mx := by
  unfold okN
  rw [Bool.and_eq_true, decide_eq_true_eq, decide_eq_true_eq]
/-- a family stands for a set, in words -/
def hasN (L H S : Nat) (mn mx n : Int) : Bool := decide (sub64 L S = 0) && (decide (sub64 S H = 0) && (decide (mn ≤ n) && decide (n ≤ mx)))
theorem hasN_iff {L H S : Nat} {mn mx n : Int} : hasN L H S mn mx n = true ↔ sub64 L S = 0 ∧ sub64 S H = 0 ∧ mn ≤ n ∧ n ≤ mx := by
  unfold hasN
  simp only [Bool.and_eq_true, decide_eq_true_eq]
theorem has_ok {L H S : Nat} {mn mx : Int} (hL : L < 18446744073709551616) (hH : H < 18446744073709551616) (hS : S < 18446744073709551616) (h : hasN L H S mn mx (ones S) = true) : okN L H mn mx = true := by
  obtain ⟨h1, h2, h3, h4⟩ := hasN_iff.1 h
  have o1 := ones_mono hL hS h1
  have o2 := ones_mono hS hH h2
  refine okN_parts.2 ⟨sub_trans hL hS hH h1 h2, ?_⟩
  unfold nmn nmx
  omega
theorem has_fail {L H S : Nat} {mn mx : Int} (hL : L < 18446744073709551616) (hH : H < 18446744073709551616) (hS : S < 18446744073709551616) (hk : okN L H mn mx = false) : hasN L H S mn mx (ones S) = false := by
  cases h : hasN L H S mn mx (ones S) with
  | false => rfl
  | true => rw [has_ok hL hH hS h] at hk; cases hk
theorem has_normal {L H S : Nat} {mn mx : Int} (hL : L < 18446744073709551616) (hH : H < 18446744073709551616) (hS : S < 18446744073709551616) (hk : okN L H mn mx = true) :
    hasN (nlo L H mn) (nhi L H mn mx) S (nmn L mn) (nmx H mx) (ones S) = hasN L H S mn mx (ones S) := by
  obtain ⟨k1, k2⟩ := okN_parts.1 hk
  have o0 := ones_mono hL hH k1
  rw [Bool.eq_iff_iff, hasN_iff, hasN_iff]
  unfold nlo nhi
  by_cases c1 : nmn L mn = ones H
  · rw [if_pos c1, if_pos c1]
    unfold nmn nmx at *
    constructor
    · rintro ⟨h1, h2, h3, h4⟩
      refine ⟨sub_trans hL hH hS k1 h1, h2, by omega, by omega⟩
    · rintro ⟨h1, h2, h3, h4⟩
      have o1 := ones_mono hL hS h1
      have o2 := ones_mono hS hH h2
      have e := ones_same hS hH h2 (by omega)
      subst e
      exact ⟨h2, h2, by omega, by omega⟩
  · rw [if_neg c1, if_neg c1]
    by_cases c2 : nmx H mx = ones L
    · rw [if_pos c2]
      unfold nmn nmx at *
      constructor
      · rintro ⟨h1, h2, h3, h4⟩
        exact ⟨h1, sub_trans hS hL hH h2 k1, by omega, by omega⟩
      · rintro ⟨h1, h2, h3, h4⟩
        have o1 := ones_mono hL hS h1
        have o2 := ones_mono hS hH h2
        have e := ones_same hL hS h1 (by omega)
        subst e
        exact ⟨h1, h1, by omega, by omega⟩
    · rw [if_neg c2]
      unfold nmn nmx at *
      constructor
      · rintro ⟨h1, h2, h3, h4⟩
        exact ⟨h1, h2, by omega, by omega⟩
      · rintro ⟨h1, h2, h3, h4⟩
        have o1 := ones_mono hL hS h1
        have o2 := ones_mono hS hH h2
        exact ⟨h1, h2, by omega, by omega⟩
/-- the document's round, its second step behind its first one -/
def rhi (L H : Nat) (mn mx : Int) : Nat := if nmx H mx = ones (nlo L H mn) then nlo L H mn else H
theorem rhi_eq {L H : Nat} {mn mx : Int} : rhi L H mn mx = nhi L H mn mx := by
  unfold rhi nhi nlo
  by_cases c1 : nmn L mn = ones H
  · rw [if_pos c1, if_pos c1]
    split <;> rfl
  · rw [if_neg c1, if_neg c1]
theorem again {L H : Nat} {mn mx : Int} (hL : L < 18446744073709551616) (hH : H < 18446744073709551616) (hk : okN L H mn mx = true) :
    okN (nlo L H mn) (nhi L H mn mx) (nmn L mn) (nmx H mx) = true ∧ nmn (nlo L H mn) (nmn L mn) = nmn L mn ∧ nmx (nhi L H mn mx) (nmx H mx) = nmx H mx ∧
    nlo (nlo L H mn) (nhi L H mn mx) (nmn L mn) = nlo L H mn ∧ nhi (nlo L H mn) (nhi L H mn mx) (nmn L mn) (nmx H mx) = nhi L H mn mx := by
  obtain ⟨k1, k2⟩ := okN_parts.1 hk
  have o0 := ones_mono hL hH k1
  by_cases c1 : nmn L mn = ones H
  · have e1 : nlo L H mn = H := if_pos c1
    have e2 : nhi L H mn mx = H := if_pos c1
    rw [e1, e2, okN_parts]
    have g1 : nmn H (nmn L mn) = nmn L mn := by unfold nmn at *; omega
    have g2 : nmx H (nmx H mx) = nmx H mx := by unfold nmx at *; omega
    refine ⟨⟨sub_self hH, by rw [g1, g2]; exact k2⟩, g1, g2, ?_, ?_⟩
    · unfold nlo; split <;> rfl
    · unfold nhi; split
      · rfl
      · split <;> rfl
  · by_cases c2 : nmx H mx = ones L
    · have e1 : nlo L H mn = L := if_neg c1
      have e2 : nhi L H mn mx = L := by unfold nhi; rw [if_neg c1, if_pos c2]
      rw [e1, e2, okN_parts]
      have g1 : nmn L (nmn L mn) = nmn L mn := by unfold nmn at *; omega
      have g2 : nmx L (nmx H mx) = nmx H mx := by unfold nmx at *; omega
      refine ⟨⟨sub_self hL, by rw [g1, g2]; exact k2⟩, g1, g2, ?_, ?_⟩
      · unfold nlo; split <;> rfl
      · unfold nhi; split
        · rfl
        · split <;> rfl
    · have e1 : nlo L H mn = L := if_neg c1
      have e2 : nhi L H mn mx = H := by unfold nhi; rw [if_neg c1, if_neg c2]
      rw [e1, e2, okN_parts]
      have g1 : nmn L (nmn L mn) = nmn L mn := by unfold nmn at *; omega
      have g2 : nmx H (nmx H mx) = nmx H mx := by unfold nmx at *; omega
      refine ⟨⟨k1, by rw [g1, g2]; exact k2⟩, g1, g2, ?_, ?_⟩
      · unfold nlo; rw [g1, if_neg c1]
      · unfold nhi; rw [g1, g2, if_neg c1, if_neg c2]
theorem nlo_lt {L H : Nat} {mn : Int} (hL : L < 18446744073709551616) (hH : H < 18446744073709551616) : nlo L H mn < 18446744073709551616 := by
  unfold nlo; split <;> assumption
theorem nhi_lt {L H : Nat} {mn mx : Int} (hL : L < 18446744073709551616) (hH : H < 18446744073709551616) : nhi L H mn mx < 18446744073709551616 := by
  unfold nhi; split
  · assumption
  · split <;> assumption
/-- a normal form is valid -/
theorem normal_valid {L H : Nat} {mn mx : Int} (hL : L < 18446744073709551616) (hH : H < 18446744073709551616) (h1 : inS mn = true) (hk : okN L H mn mx = true) :
    validFB (bi (nlo L H mn)) (bi (nhi L H mn mx)) (nmn L mn) (nmx H mx) = true := by
  have k2 := (okN_parts.1 hk).2
  have o := ones_le64 hH
  unfold validFB
  rw [bi_elems (nlo_lt hL hH), bi_elems (nhi_lt hL hH)]
  simp only [inS, Bool.and_eq_true, decide_eq_true_eq, Bool.true_and] at h1 ⊢
  unfold nmn nmx at *
  omega
theorem meet_has {L1 L2 H1 H2 S : Nat} {m1 m2 x1 x2 n : Int} (a1 : L1 < 18446744073709551616) (a2 : L2 < 18446744073709551616) (b1 : H1 < 18446744073709551616) (b2 : H2 < 18446744073709551616) (hS : S < 18446744073709551616) :
    hasN (L1 ||| L2) (H1 &&& H2) S (max m1 m2) (min x1 x2) n = (hasN L1 H1 S m1 x1 n && hasN L2 H2 S m2 x2 n) := by
  rw [Bool.eq_iff_iff, Bool.and_eq_true, hasN_iff, hasN_iff, hasN_iff]
  rw [sub_zero (or_lt a1 a2) hS, sub_zero hS (Nat.lt_of_le_of_lt Nat.and_le_left b1), sub_zero a1 hS, sub_zero a2 hS, sub_zero hS b1, sub_zero hS b2]
  constructor
  · rintro ⟨h1, h2, h3, h4⟩
    refine ⟨⟨fun t ht => h1 t (by rw [Nat.testBit_or, ht]; rfl), fun t ht => ?_, by omega, by omega⟩, fun t ht => h1 t (by rw [Nat.testBit_or, ht, Bool.or_true]), fun t ht => ?_, by omega, by omega⟩
    · have := h2 t ht; rw [Nat.testBit_and, Bool.and_eq_true] at this; exact this.1
    · have := h2 t ht; rw [Nat.testBit_and, Bool.and_eq_true] at this; exact this.2
  · rintro ⟨⟨h1, h2, h3, h4⟩, k1, k2, k3, k4⟩
    refine ⟨fun t ht => ?_, fun t ht => by rw [Nat.testBit_and, h2 t ht, k2 t ht]; rfl, by omega, by omega⟩
    rw [Nat.testBit_or, Bool.or_eq_true] at ht
    rcases ht with ht | ht
    · exact h1 t ht
    · exact k1 t ht
end Go.Proofs.YtcbjkclajkjicaaGreatDoor

/-
  Meet: the program's.
-/
namespace Go.Proofs.YtcbjkclajkjicaaGreatDoor
set_option linter.unusedSimpArgs false
open Go Go.RowKit Go.Shelf Go.Ev

theorem and_self64 {b c : Nat} (hc : c < 18446744073709551616) : sub64 b (18446744073709551615 - c) = b &&& c := by
  unfold sub64
  rw [show 18446744073709551615 - (18446744073709551615 - c) = c by omega]
theorem xor_all {c : Nat} (hc : c < 18446744073709551616) : 18446744073709551615 ^^^ c = 18446744073709551615 - c := by
  have e0 : (18446744073709551615 : Nat) = 2 ^ 64 - (0 + 1) := by decide
  have e : 18446744073709551615 - c = 2 ^ 64 - (c + 1) := by
    have : (2 : Nat) ^ 64 = 18446744073709551616 := by decide
    omega
  refine Nat.eq_of_testBit_eq fun t => ?_
  rw [e, Nat.testBit_two_pow_sub_succ (show c < 2 ^ 64 from hc), Nat.testBit_xor, e0, Nat.testBit_two_pow_sub_succ (by decide), Nat.zero_testBit]
  by_cases ht : t < 64
  · simp [ht]
  · have : c.testBit t = false := Nat.testBit_lt_two_pow (Nat.lt_of_lt_of_le hc (Nat.pow_le_pow_right (n := 2) (by decide) (show 64 ≤ t by omega)))
    simp [ht, this]
theorem xor_u64 (c : Nat) (hc : c < 18446744073709551616) : bits .xor .u64 IntKind.u64.max (c : Int) = ((18446744073709551615 - c : Nat) : Int) := by
  rw [show IntKind.u64.max = ((18446744073709551615 : Nat) : Int) from rfl, bits_xor_u64_nat _ _ (by decide) hc, xor_all hc]
/-- what Meet comes out as -/
def MeetRes (v : Bool) (lo hi : Nat) (mn mx : Int) (w : World) (e : Ending) (w' : World) : Prop :=
  (if v = true then NormRes lo hi mn mx w.heap.size e w' else e = .returned (.tuple #[.agg #[.slice none 0 0, .slice none 0 0, .int .i64 0, .int .i64 0], .int .i64 2])) ∧ Below w.heap.size w w'
/-- two bounds lie beside what was there -/
def TwoBd (base : Nat) (L H : Nat) (mn mx : Int) (L' H' : Nat) (mn' mx' : Int) (g6 g7 : Nat) (wx : World) : Prop :=
  g6 ≠ g7 ∧ base + 3 ≤ g6 ∧ base + 3 ≤ g7 ∧ Bd wx g6 L H mn mx ∧ Bd wx g7 L' H' mn' mx'
theorem TwoBd.step {base L H : Nat} {mn mx : Int} {L' H' : Nat} {mn' mx' : Int} {g6 g7 : Nat} {wx wy : World} {L1 H1 : Nat} {m1 x1 : Int} (h : TwoBd base L H mn mx L' H' mn' mx' g6 g7 wx) (b : Bd wy g6 L1 H1 m1 x1) (o : Only g6 wx wy) : TwoBd base L1 H1 m1 x1 L' H' mn' mx' g6 g7 wy :=
  ⟨h.1, h.2.1, h.2.2.1, b, (o.2 g7 h.1.symm).trans h.2.2.2.2⟩
theorem zb_facts {w : World} {B : Nat} (h : w.heap[B]? = some (.cells #[.int .u64 0, .int .u64 0, .int .i64 0, .int .i64 0] 58 (0, 0))) : w.cell? ⟨B, 0, none⟩ = some (.int .u64 0) ∧ w.cell? ⟨B, 1, none⟩ = some (.int .u64 0) ∧ w.cell? ⟨B, 2, none⟩ = some (.int .i64 0) ∧ w.cell? ⟨B, 3, none⟩ = some (.int .i64 0) ∧ ∀ o, w.frozen? ⟨B, o, none⟩ = false := by
  refine ⟨?_, ?_, ?_, ?_, fun o => by simp [World.frozen?, h]⟩ <;> (simp only [World.cell?, h]; rfl)
/-- zero bounds -/
abbrev ZB : Obj := .cells #[.int .u64 0, .int .u64 0, .int .i64 0, .int .i64 0] 58
/-- bounds written whole -/
theorem put4 {V : World} {g : Nat} {a b c d : Value} (h : V.heap[g]? = some (.cells #[a, b, c, d] 58 (0, 0))) (lo hi : Nat) (mn mx : Int) :
    Bd ((((V.setCell ⟨g, 0, none⟩ (.int .u64 lo)).setCell ⟨g, 1, none⟩ (.int .u64 hi)).setCell ⟨g, 2, none⟩ (.int .i64 mn)).setCell ⟨g, 3, none⟩ (.int .i64 mx)) g lo hi mn mx ∧
    Only g V ((((V.setCell ⟨g, 0, none⟩ (.int .u64 lo)).setCell ⟨g, 1, none⟩ (.int .u64 hi)).setCell ⟨g, 2, none⟩ (.int .i64 mn)).setCell ⟨g, 3, none⟩ (.int .i64 mx)) := by
  have h0 := heap_setCell_same _ g 0 _ _ (.int .u64 lo) h
  have h1 := heap_setCell_same _ g 1 _ _ (.int .u64 hi) h0
  have h2 := heap_setCell_same _ g 2 _ _ (.int .i64 mn) h1
  have h3 := heap_setCell_same _ g 3 _ _ (.int .i64 mx) h2
  exact ⟨h3, (((Only.set _ _ _).trans (Only.set _ _ _)).trans (Only.set _ _ _)).trans (Only.set _ _ _)⟩
/-- what has been allocated so far -/
def Lay (base : Nat) (y : World) (o6 o7 : Option Nat) (V : World) : Prop :=
  Below base y V ∧ base ≤ V.heap.size ∧ (∀ g, o6 = some g → base ≤ g ∧ g < V.heap.size ∧ V.heap[g]? = some ZB) ∧ (∀ g, o7 = some g → base ≤ g ∧ g < V.heap.size ∧ V.heap[g]? = some ZB) ∧ (∀ g h, o6 = some g → o7 = some h → g ≠ h)
theorem Lay.call {base : Nat} {y V V' : World} {o6 o7 : Option Nat} (h : Lay base y o6 o7 V) (hb : Below V.heap.size V V') : Lay base y o6 o7 V' := by
  obtain ⟨h1, h2, h3, h4, h5⟩ := h
  have hs := hb.size
  refine ⟨h1.trans (hb.mono h2), by omega, fun g hg => ?_, fun g hg => ?_, h5⟩
  · obtain ⟨a, b, c⟩ := h3 g hg
    exact ⟨a, by omega, (hb.block g b).trans c⟩
  · obtain ⟨a, b, c⟩ := h4 g hg
    exact ⟨a, by omega, (hb.block g b).trans c⟩
theorem Lay.alloc6 {base : Nat} {y V : World} {o7 : Option Nat} (h : Lay base y none o7 V) : Lay base y (some V.heap.size) o7 (V.alloc ZB) := by
  obtain ⟨h1, h2, h3, h4, h5⟩ := h
  have hb : Below V.heap.size V (V.alloc ZB) := (Below.refl _ V).alloc (Nat.le_refl _) _
  refine ⟨h1.trans (hb.mono h2), by simp; omega, fun g hg => ?_, fun g hg => ?_, fun g k hg hk => ?_⟩
  · cases hg
    exact ⟨h2, by simp, heap_alloc_new _ _⟩
  · obtain ⟨a, b, c⟩ := h4 g hg
    exact ⟨a, by simp; omega, (hb.block g b).trans c⟩
  · cases hg
    obtain ⟨a, b, c⟩ := h4 k hk
    omega
theorem Lay.alloc7 {base : Nat} {y V : World} {o6 : Option Nat} (h : Lay base y o6 none V) : Lay base y o6 (some V.heap.size) (V.alloc ZB) := by
  obtain ⟨h1, h2, h3, h4, h5⟩ := h
  have hb : Below V.heap.size V (V.alloc ZB) := (Below.refl _ V).alloc (Nat.le_refl _) _
  refine ⟨h1.trans (hb.mono h2), by simp; omega, fun g hg => ?_, fun g hg => ?_, fun g k hg hk => ?_⟩
  · obtain ⟨a, b, c⟩ := h3 g hg
    exact ⟨a, by simp; omega, (hb.block g b).trans c⟩
  · cases hg
    exact ⟨h2, by simp, heap_alloc_new _ _⟩
  · cases hk
    obtain ⟨a, b, c⟩ := h3 g hg
    omega
end Go.Proofs.YtcbjkclajkjicaaGreatDoor
