/-
  Plain: sets as words; whether a relation holds for lists; what Fix keeps.
-/
import Derived.Test.YthakhdbakmlooaaDoorFhP
import Derived.Test.YthakhdbakmlooaaDoorKaR
namespace Go.Proofs.YthakhdbakmlooaaDoor
set_option linter.unusedSimpArgs false
set_option linter.unusedVariables false
open Go Go.RowKit Go.Shelf Go.Ev

/-- lists of elements, as words -/
def wordsOf (ls : List (List Int)) (i : Nat) : Nat := setN (ls.getD i [])
theorem elems_nil : elemsB [] = true := by decide
theorem elems_getD {ls : List (List Int)} (h : ∀ l ∈ ls, elemsB l = true) (i : Nat) : elemsB (ls.getD i []) = true := by
  rw [List.getD_eq_getElem?_getD]
  cases e : ls[i]? with
  | none => exact elems_nil
  | some l => exact h l (List.mem_of_getElem? e)
theorem words_wd {ls : List (List Int)} (h : ∀ l ∈ ls, elemsB l = true) : Wd (wordsOf ls) := fun i => setN_lt (elems_all (elems_getD h i))
theorem mem_word {l : List Int} (h : elemsB l = true) (v : Int) : l.contains v = (inR v && (setN l).testBit v.toNat) := by
  cases hv : inR v with
  | false =>
    rw [Bool.false_and]
    cases hc : l.contains v with
    | false => rfl
    | true =>
      have := List.all_eq_true.1 (elems_all h) v (by simpa using hc)
      rw [hv] at this; cases this
  | true =>
    rw [setN_test (elems_all h), Bool.true_and]
    simp only [inR, Bool.and_eq_true, decide_eq_true_eq] at hv
    rw [Int.toNat_of_nonneg hv.1]
theorem mem_bit {l : List Int} (h : elemsB l = true) (v : Int) : v ∈ l ↔ inR v = true ∧ (setN l).testBit v.toNat = true := by
  have := mem_word h v
  rw [← List.contains_iff_mem, this, Bool.and_eq_true]
theorem bit_mem {l : List Int} (h : elemsB l = true) (t : Nat) : (setN l).testBit t = true ↔ (t : Int) ∈ l := by
  rw [setN_test (elems_all h), List.contains_iff_mem]
theorem inR_nat {t : Nat} (h : t < 64) : inR (t : Int) = true := by
  simp only [inR, Bool.and_eq_true, decide_eq_true_eq]; omega
/-- two lists of elements are the same if they have the same elements -/
theorem list_eq {l m : List Int} (hl : l.Pairwise (· < ·)) (hm : m.Pairwise (· < ·)) : l = m ↔ ∀ x, x ∈ l ↔ x ∈ m := ⟨fun e x => by rw [e], pair_ext hl hm⟩
theorem kind_rel (d : Kd) (ls : List (List Int)) (N : Int) (x y z : Int) (h : ∀ l ∈ ls, elemsB l = true) :
    kindB d (nthL ls x) (nthL ls y) (nthL ls z) N = true ↔ relS d x.toNat y.toNat z.toNat N (wordsOf ls) := by
  have ha := elems_getD h x.toNat
  have hb := elems_getD h y.toNat
  have hc := elems_getD h z.toNat
  unfold kindB relS wordsOf nthL
  generalize ls.getD x.toNat [] = a at *
  generalize ls.getD y.toNat [] = b at *
  generalize ls.getD z.toNat [] = c at *
  have pa := pair_of_asc (elems_asc ha)
  have pc := pair_of_asc (elems_asc hc)
  have up : ∀ {l : List Int}, elemsB l = true → ∀ v ∈ l, ∃ t : Nat, v = t := fun hl v hv => by
    have := List.all_eq_true.1 (elems_all hl) v hv
    simp only [inR, Bool.and_eq_true, decide_eq_true_eq] at this
    exact ⟨v.toNat, by omega⟩
  cases d <;> dsimp only
  case part =>
    rw [List.all_eq_true]
    constructor
    · intro k t ht
      have := k _ ((bit_mem ha t).1 ht)
      exact (bit_mem hb t).2 (by simpa using this)
    · intro k v hv
      obtain ⟨t, rfl⟩ := up ha v hv
      simpa using (bit_mem hb t).1 (k t ((bit_mem ha t).2 hv))
  case apart =>
    rw [List.all_eq_true]
    constructor
    · intro k t ht
      have := k _ ((bit_mem ha t).1 ht)
      cases e : (setN b).testBit t
      · rfl
      · have := (bit_mem hb t).1 e
        simp_all
    · intro k v hv
      obtain ⟨t, rfl⟩ := up ha v hv
      have := k t ((bit_mem ha t).2 hv)
      simp only [Bool.not_eq_true', List.contains_eq_mem, decide_eq_false_iff_not]
      intro hb'
      rw [(bit_mem hb t).2 hb'] at this; cases this
  case union =>
    simp only [Bool.and_eq_true, List.all_eq_true, List.mem_filter, List.contains_eq_mem, decide_eq_true_eq, Bool.not_eq_true', decide_eq_false_iff_not]
    constructor
    · rintro ⟨⟨k1, k2⟩, k3⟩ t
      rw [Bool.eq_iff_iff, Bool.or_eq_true, bit_mem ha, bit_mem hb, bit_mem hc]
      constructor
      · intro hz
        by_cases e : (t : Int) ∈ a
        · exact .inl e
        · exact .inr (k3 _ ⟨hz, e⟩)
      · rintro (e | e)
        · exact k1 _ e
        · exact k2 _ e
    · intro k
      have k' : ∀ t : Nat, (t : Int) ∈ c ↔ ((t : Int) ∈ a ∨ (t : Int) ∈ b) := fun t => by
        have := k t
        rw [Bool.eq_iff_iff, Bool.or_eq_true, bit_mem ha, bit_mem hb, bit_mem hc] at this
        exact this
      refine ⟨⟨fun v hv => ?_, fun v hv => ?_⟩, fun v hv => ?_⟩
      · obtain ⟨t, rfl⟩ := up ha v hv
        exact (k' t).2 (.inl hv)
      · obtain ⟨t, rfl⟩ := up hb v hv
        exact (k' t).2 (.inr hv)
      · obtain ⟨t, rfl⟩ := up hc v hv.1
        exact ((k' t).1 hv.1).resolve_left hv.2
  case meet =>
    rw [decide_eq_true_eq, list_eq (pa.filter _) pc]
    constructor
    · intro k t
      rw [Bool.eq_iff_iff, Bool.and_eq_true, bit_mem ha, bit_mem hb, bit_mem hc, ← k]
      simp
    · intro k v
      have k' : ∀ t : Nat, (t : Int) ∈ c ↔ ((t : Int) ∈ a ∧ (t : Int) ∈ b) := fun t => by
        have := k t
        rw [Bool.eq_iff_iff, Bool.and_eq_true, bit_mem ha, bit_mem hb, bit_mem hc] at this
        exact this
      simp only [List.mem_filter, List.contains_eq_mem, decide_eq_true_eq]
      constructor
      · intro hv
        obtain ⟨t, rfl⟩ := up ha v hv.1
        exact (k' t).2 hv
      · intro hv
        obtain ⟨t, rfl⟩ := up hc v hv
        exact (k' t).1 hv
  case minus =>
    rw [decide_eq_true_eq, list_eq (pa.filter _) pc]
    constructor
    · intro k t
      have hk := k (t : Int)
      simp only [List.mem_filter, List.contains_eq_mem, Bool.not_eq_true', decide_eq_false_iff_not] at hk
      rw [Bool.eq_iff_iff, Bool.and_eq_true, Bool.not_eq_true', bit_mem ha, bit_mem hc, ← hk]
      refine and_congr_right fun _ => ?_
      rw [← bit_mem hb, Bool.not_eq_true]
    · intro k v
      have k' : ∀ t : Nat, (t : Int) ∈ c ↔ ((t : Int) ∈ a ∧ ¬ (t : Int) ∈ b) := fun t => by
        have := k t
        rw [Bool.eq_iff_iff, Bool.and_eq_true, Bool.not_eq_true', bit_mem ha, bit_mem hc] at this
        rw [this, ← bit_mem hb, Bool.not_eq_true]
      simp only [List.mem_filter, List.contains_eq_mem, Bool.not_eq_true', decide_eq_false_iff_not]
      constructor
      · intro hv
        obtain ⟨t, rfl⟩ := up ha v hv.1
        exact (k' t).2 hv
      · intro hv
        obtain ⟨t, rfl⟩ := up hc v hv
        exact (k' t).1 hv
  case has => rw [mem_word ha, Bool.and_eq_true]
  case lacks =>
    rw [mem_word ha]
    cases inR N <;> simp
  case size => rw [decide_eq_true_eq, len_setN ha]
  case none => simp
/-- whether a relation holds for lists of elements -/
theorem holds_iff (r : RelV) (ls : List (List Int)) (h : ∀ l ∈ ls, elemsB l = true) (hr : relB r.d r.vs ls.length = true) : holdPB r.d r.vs r.N ls = true ↔ r.holds (wordsOf ls) := by
  unfold holdPB RelV.holds
  have hn : (!(ls.any fun l => !ascB l)) = true := by
    rw [Bool.not_eq_true', List.any_eq_false]
    intro l hl
    simp [elems_asc (h l hl)]
  rw [hr, hn, Bool.true_and, Bool.true_and]
  exact kind_rel r.d ls r.N _ _ _ h
/-- A: no sets are lost for which all relations hold -/
theorem keeps_all {rs : List RelV} {fs : List FamV} {ls : List (List Int)} (hv : validP rs fs = true) (hl : ls.length = fs.length) (he : ∀ l ∈ ls, elemsB l = true)
    (hin : ∀ i (h : i < fs.length), InB (bdOf fs[i]) (wordsOf ls i)) (hh : ∀ r ∈ rs, holdPB r.d r.vs r.N ls = true) :
    okAll fs = true ∧ ∀ b H, Sett rs fs.length (firstF fs) b H → b = true ∧ ∀ i, InB (H i) (wordsOf ls i) := by
  have hw := words_wd he
  simp only [validP, Bool.and_eq_true] at hv
  have ok1 : ∀ i (h : i < fs.length), okB (bdOf fs[i]) = true ∧ InB (normB (bdOf fs[i])) (wordsOf ls i) := fun i h => by
    have v := fam_parts (List.all_eq_true.1 hv.1.2 _ (List.getElem_mem h))
    exact inB_norm (setN_lt v.1) (setN_lt v.2.1) (hw i) (hin i h)
  have oa : okAll fs = true := List.all_eq_true.2 fun f hf => by
    obtain ⟨i, hi, rfl⟩ := List.mem_iff_getElem.1 hf
    exact (ok1 i hi).1
  refine ⟨oa, fun b H hs => ?_⟩
  have s0 : SB (firstF fs) (wordsOf ls) := ⟨(fine_first hv.1.2 oa).bits, fun i => by
    unfold firstF
    by_cases hi : i < fs.length
    · rw [List.getElem?_eq_getElem hi]; exact (ok1 i hi).2
    · rw [List.getElem?_eq_none (by omega)]
      have : wordsOf ls i = 0 := by
        unfold wordsOf
        rw [List.getD_eq_getElem?_getD, List.getElem?_eq_none (by omega)]
        rfl
      rw [this]
      exact ⟨fun _ h => by simp [zB] at h, fun _ h => by simp at h, by decide, by decide⟩⟩
  have := sb_sett hw (fun r hr => (holds_iff r ls he (by rw [hl]; exact List.all_eq_true.1 hv.2 r hr)).1 (hh r hr)) hs s0
  exact ⟨this.1, this.2.2⟩
end Go.Proofs.YthakhdbakmlooaaDoor

/-
  Plain: Fix of sets alone.
-/
namespace Go.Proofs.YthakhdbakmlooaaDoor
set_option linter.unusedSimpArgs false
set_option linter.unusedVariables false
open Go Go.RowKit Go.Shelf Go.Ev

theorem norm_fixed {S : Nat} (hS : S < 18446744073709551616) : normB ⟨S, S, 0, 64⟩ = ⟨S, S, ones S, ones S⟩ := by
  have h64 := ones_le64 hS
  unfold normB
  simp only [BdV.mk.injEq]
  refine ⟨?_, ?_, ?_, ?_⟩
  · unfold nlo; split <;> rfl
  · unfold nhi
    split
    · rfl
    · split <;> rfl
  · unfold nmn; omega
  · unfold nmx; omega
theorem ordered_norm (b : BdV) (h1 : b.lo < 18446744073709551616) (h2 : b.hi < 18446744073709551616) (hk : okB b = true) : (normB b).lo ≤ (normB b).hi := by
  simp only [okB, okN, Bool.and_eq_true, decide_eq_true_eq] at hk
  have hle := sub_zero_le h1 h2 hk.1
  unfold normB nlo nhi
  dsimp only
  split
  · exact Nat.le_refl _
  · split
    · exact Nat.le_refl _
    · exact hle
/-- B: of sets alone, Fix leaves them, exactly if all relations hold -/
theorem fixed_all {rs : List RelV} {fs : List FamV} {ls : List (List Int)} (hv : validP rs fs = true) (hl : ls.length = fs.length)
    (hf : ∀ i (h : i < fs.length), fs[i].lo = ls.getD i [] ∧ fs[i].hi = ls.getD i [] ∧ fs[i].mn = 0 ∧ fs[i].mx = 64) :
    (∀ l ∈ ls, elemsB l = true) ∧ okAll fs = true ∧ ∀ b H, Sett rs fs.length (firstF fs) b H → (b = true ↔ ∀ r ∈ rs, holdPB r.d r.vs r.N ls = true) ∧ (b = true → Fx H (wordsOf ls)) := by
  simp only [validP, Bool.and_eq_true] at hv
  have he : ∀ l ∈ ls, elemsB l = true := fun l hl' => by
    obtain ⟨i, hi, rfl⟩ := List.mem_iff_getElem.1 hl'
    have v := List.all_eq_true.1 hv.1.2 _ (List.getElem_mem (by omega : i < fs.length))
    unfold FamV.ok validFB at v
    simp only [Bool.and_eq_true] at v
    have := v.1.1.1
    rw [(hf i (by omega)).1, List.getD_eq_getElem?_getD, List.getElem?_eq_getElem hi] at this
    exact this
  have hw := words_wd he
  have hb : ∀ i (h : i < fs.length), bdOf fs[i] = ⟨wordsOf ls i, wordsOf ls i, 0, 64⟩ := fun i h => by
    obtain ⟨h1, h2, h3, h4⟩ := hf i h
    unfold bdOf wordsOf
    rw [h1, h2, h3, h4]
  have hok : ∀ i (h : i < fs.length), okB (bdOf fs[i]) = true := fun i h => by
    rw [hb i h]
    have h64 := ones_le64 (hw i)
    exact (inB_norm (S := wordsOf ls i) (hw i) (hw i) (hw i) ⟨fun _ h => h, fun _ h => h, by dsimp only; omega, by dsimp only; omega⟩).1
  have oa : okAll fs = true := List.all_eq_true.2 fun f hf' => by
    obtain ⟨i, hi, rfl⟩ := List.mem_iff_getElem.1 hf'
    exact hok i hi
  have hfx : Fx (firstF fs) (wordsOf ls) := fun i => by
    unfold firstF
    by_cases hi : i < fs.length
    · rw [List.getElem?_eq_getElem hi]
      dsimp only
      rw [hb i hi, norm_fixed (hw i)]
      exact ⟨rfl, rfl, rfl, rfl⟩
    · rw [List.getElem?_eq_none (by omega)]
      have : wordsOf ls i = 0 := by
        unfold wordsOf
        rw [List.getD_eq_getElem?_getD, List.getElem?_eq_none (by omega)]
        rfl
      rw [this]
      exact ⟨by decide, by decide, by decide, by decide⟩
  have hfi := fine_first hv.1.2 oa
  have hrv : ∀ r ∈ rs, relB r.d r.vs ls.length = true := fun r hr => by rw [hl]; exact List.all_eq_true.1 hv.2 r hr
  have hr' : ∀ r ∈ rs, ∃ m, varsN r.d = some m ∧ r.vs.length = m := fun r h => by
    obtain ⟨m, hm, hl, _⟩ := relV_parts (hrv r h)
    exact ⟨m, hm, hl⟩
  refine ⟨he, oa, fun b H hs => ?_⟩
  have hH : b = true → Fx H (wordsOf ls) := fun hbt => by
    obtain ⟨p1, p2, p3⟩ := sett_P (P := fun b => b.lo ≤ b.hi) ordered_norm hr' hs hfi (fun i => by rw [(hfx i).1, (hfx i).2.1]; exact Nat.le_refl _) hbt
    intro i
    obtain ⟨q1, q2, q3, q4⟩ := hfx i
    obtain ⟨n1, n2, n3, n4⟩ := p2 i
    have f := (p3 i).2.2.2.1
    have o := p1 i
    rw [q1] at n1
    rw [q2] at n2
    rw [q3] at n3
    rw [q4] at n4
    exact ⟨by omega, by omega, by omega, by omega⟩
  refine ⟨⟨fun hbt r hr => ?_, fun hall => ?_⟩, hH⟩
  · refine (holds_iff r ls he (hrv r hr)).2 ?_
    obtain ⟨m, hm, hl'⟩ := hr' r hr
    have hF := (sett_P (P := fun b => b.lo ≤ b.hi) ordered_norm hr' hs hfi (fun i => by rw [(hfx i).1, (hfx i).2.1]; exact Nat.le_refl _) hbt).2.2
    have hend := sett_end (by rw [← hl]; exact hrv) hs hfi hbt r hr
    exact fixed_rel hm hl' hw (hH hbt) (follow_rel hm hl' hF.bits hend)
  · have s0 : SB (firstF fs) (wordsOf ls) := ⟨hfi.bits, fun i => by
      obtain ⟨q1, q2, q3, q4⟩ := hfx i
      refine ⟨fun t ht => by rwa [q1] at ht, fun t ht => by rw [q2]; exact ht, by rw [q3]; exact Int.le_refl _, by rw [q4]; exact Int.le_refl _⟩⟩
    exact (sb_sett hw (fun r hr => (holds_iff r ls he (hrv r hr)).1 (hall r hr)) hs s0).1
end Go.Proofs.YthakhdbakmlooaaDoor
