/-
  Plain: what follows from a relation loses no sets for which it holds.
-/
import Derived.Test.YthakhdbakmlooaaDoorKaQ
namespace Go.Proofs.YthakhdbakmlooaaDoor
set_option linter.unusedSimpArgs false
set_option linter.unusedVariables false
open Go Go.RowKit Go.Shelf Go.Ev

/-- a set lies within bounds -/
def InB (b : BdV) (S : Nat) : Prop := (∀ t, b.lo.testBit t = true → S.testBit t = true) ∧ (∀ t, S.testBit t = true → b.hi.testBit t = true) ∧ b.mn ≤ ones S ∧ (ones S : Int) ≤ b.mx
/-- sets lie within bounds -/
def SB (F : Nat → BdV) (σ : Nat → Nat) : Prop := Bits F ∧ ∀ i, InB (F i) (σ i)
def Wd (σ : Nat → Nat) : Prop := ∀ i, σ i < 18446744073709551616
theorem nt_bit {x t : Nat} (hx : x < 18446744073709551616) (h : (nt x).testBit t = true) : x.testBit t = false := by
  have e : nt x = 2 ^ 64 - (x + 1) := by
    unfold nt
    have : (2 : Nat) ^ 64 = 18446744073709551616 := by decide
    omega
  rw [e, Nat.testBit_two_pow_sub_succ (show x < 2 ^ 64 from hx)] at h
  simp only [Bool.and_eq_true, Bool.not_eq_true'] at h
  exact h.2
theorem ones_sub {a b : Nat} (ha : a < 18446744073709551616) (hb : b < 18446744073709551616) (h : ∀ t, a.testBit t = true → b.testBit t = true) : ones a ≤ ones b := ones_mono ha hb ((sub_zero ha hb).2 h)
theorem countP_or : ∀ (p q : Nat → Bool) (l : List Nat), (l.countP fun t => p t || q t) ≤ l.countP p + l.countP q
  | _, _, [] => Nat.le_refl _
  | p, q, t :: l => by
    have := countP_or p q l
    simp only [List.countP_cons]
    cases p t <;> cases q t <;> simp <;> omega
theorem ones_or {a b c : Nat} (ha : a < 18446744073709551616) (hb : b < 18446744073709551616) (hc : c < 18446744073709551616) (h : ∀ t, c.testBit t = (a.testBit t || b.testBit t)) : ones c ≤ ones a + ones b := by
  rw [ones_eq ha, ones_eq hb, ones_eq hc, show (fun t => c.testBit t) = fun t => (a.testBit t || b.testBit t) from funext h]
  exact countP_or _ _ _
section
variable {F : Nat → BdV} {σ : Nat → Nat}
theorem SB.lo (h : SB F σ) (i t : Nat) (k : (F i).lo.testBit t = true) : (σ i).testBit t = true := (h.2 i).1 t k
theorem SB.nh (h : SB F σ) (i t : Nat) (k : (F i).hi.testBit t = false) : (σ i).testBit t = false := by
  cases e : (σ i).testBit t
  · rfl
  · rw [(h.2 i).2.1 t e] at k; cases k
theorem SB.nhi (h : SB F σ) (i t : Nat) (k : (nt (F i).hi).testBit t = true) : (σ i).testBit t = false := h.nh i t (nt_bit (h.1 i).2 k)
theorem SB.sub (h : SB F σ) (i j t : Nat) (k : (sub64 (F i).lo (F j).hi).testBit t = true) : (σ i).testBit t = true ∧ (σ j).testBit t = false := by
  rw [sub_bit (h.1 j).2] at k
  simp only [Bool.and_eq_true, Bool.not_eq_true'] at k
  exact ⟨h.lo i t k.1, h.nh j t k.2.2⟩
theorem SB.upd (h : SB F σ) (x : Nat) (b : BdV) (h1 : b.lo < 18446744073709551616) (h2 : b.hi < 18446744073709551616) (hb : InB b (σ x)) : SB (upd F x b) σ :=
  ⟨h.1.upd x b h1 h2, fun i => by
    by_cases e : i = x
    · rw [e, upd_same]; exact hb
    · rw [upd_other _ _ e]; exact h.2 i⟩
theorem SB.into (h : SB F σ) (x s : Nat) (hs : s < 18446744073709551616) (hb : ∀ t, s.testBit t = true → (σ x).testBit t = true) : SB (intoF F x s) σ :=
  h.upd x _ (or_lt (h.1 x).1 hs) (h.1 x).2 ⟨fun t k => by
    rw [Nat.testBit_or, Bool.or_eq_true] at k
    rcases k with k | k
    · exact (h.2 x).1 t k
    · exact hb t k, (h.2 x).2⟩
theorem SB.out (hw : Wd σ) (h : SB F σ) (x s : Nat) (hs : s < 18446744073709551616) (hb : ∀ t, s.testBit t = true → (σ x).testBit t = false) : SB (outF F x s) σ :=
  h.upd x _ (h.1 x).1 (sub64_lt (h.1 x).2) ⟨(h.2 x).1, fun t k => by
    rw [sub_bit hs, (h.2 x).2.1 t k]
    have ht : t < 64 := by
      by_cases e : t < 64
      · exact e
      · have : (σ x).testBit t = false := Nat.testBit_lt_two_pow (Nat.lt_of_lt_of_le (hw x) (Nat.pow_le_pow_right (n := 2) (by decide) (show 64 ≤ t by omega)))
        rw [this] at k; cases k
    have hn : s.testBit t = false := by
      cases e : s.testBit t
      · rfl
      · rw [hb t e] at k; cases k
    simp [ht, hn], (h.2 x).2.2⟩
theorem SB.least (h : SB F σ) (x : Nat) (k : Int) (hk : k ≤ ones (σ x)) : SB (leastF F x k) σ :=
  h.upd x _ (h.1 x).1 (h.1 x).2 ⟨(h.2 x).1, (h.2 x).2.1, Int.max_le.2 ⟨(h.2 x).2.2.1, hk⟩, (h.2 x).2.2.2⟩
theorem SB.most (h : SB F σ) (x : Nat) (k : Int) (hk : (ones (σ x) : Int) ≤ k) : SB (mostF F x k) σ :=
  h.upd x _ (h.1 x).1 (h.1 x).2 ⟨(h.2 x).1, (h.2 x).2.1, (h.2 x).2.2.1, Int.le_min.2 ⟨(h.2 x).2.2.2, hk⟩⟩
end
set_option hygiene false in
macro "bitdec" : tactic => `(tactic| (
  generalize (σ x).testBit t = a
  generalize (σ y).testBit t = b
  generalize (σ z).testBit t = c
  revert a b c
  decide))
theorem sb_part {F : Nat → BdV} {σ : Nat → Nat} (hw : Wd σ) (x y z : Nat) (R : ∀ t, (σ x).testBit t = true → (σ y).testBit t = true) (h0 : SB F σ) : SB (partF F x y) σ := by
  have o1 : (ones (σ x) : Int) ≤ ones (σ y) := Int.ofNat_le.2 (ones_sub (hw x) (hw y) R)
  obtain ⟨F1, hF1⟩ : ∃ G, intoF F y ((F x).lo) = G := ⟨_, rfl⟩
  have h1 : SB F1 σ := by
    rw [← hF1]
    refine SB.into h0 y _ ((h0.1 _).1) fun t ht => ?_
    have f := h0.lo x t ht
    have r := R t
    revert f r
    bitdec
  obtain ⟨F2, hF2⟩ : ∃ G, outF F1 x (nt (F1 y).hi) = G := ⟨_, rfl⟩
  have h2 : SB F2 σ := by
    rw [← hF2]
    refine SB.out hw h1 x _ (nt_lt _) fun t ht => ?_
    have f := h1.nhi y t ht
    have r := R t
    revert f r
    bitdec
  obtain ⟨F3, hF3⟩ : ∃ G, mostF F2 x ((F2 y).mx) = G := ⟨_, rfl⟩
  have h3 : SB F3 σ := by
    rw [← hF3]
    refine SB.most h2 x _ ?_
    have q1 := (h2.2 x).2.2
    have q2 := (h2.2 y).2.2
    have q3 := (h2.2 z).2.2
    omega
  obtain ⟨F4, hF4⟩ : ∃ G, leastF F3 y ((F3 x).mn) = G := ⟨_, rfl⟩
  have h4 : SB F4 σ := by
    rw [← hF4]
    refine SB.least h3 y _ ?_
    have q1 := (h3.2 x).2.2
    have q2 := (h3.2 y).2.2
    have q3 := (h3.2 z).2.2
    omega
  have e : partF F x y = F4 := by unfold partF; simp only [hF1, hF2, hF3, hF4]
  rw [e]
  exact h4
theorem sb_apart {F : Nat → BdV} {σ : Nat → Nat} (hw : Wd σ) (x y z : Nat) (R : ∀ t, (σ x).testBit t = true → (σ y).testBit t = false) (h0 : SB F σ) : SB (apartF F x y) σ := by
  obtain ⟨F1, hF1⟩ : ∃ G, outF F x ((F y).lo) = G := ⟨_, rfl⟩
  have h1 : SB F1 σ := by
    rw [← hF1]
    refine SB.out hw h0 x _ ((h0.1 _).1) fun t ht => ?_
    have f := h0.lo y t ht
    have r := R t
    revert f r
    bitdec
  obtain ⟨F2, hF2⟩ : ∃ G, outF F1 y ((F1 x).lo) = G := ⟨_, rfl⟩
  have h2 : SB F2 σ := by
    rw [← hF2]
    refine SB.out hw h1 y _ ((h1.1 _).1) fun t ht => ?_
    have f := h1.lo x t ht
    have r := R t
    revert f r
    bitdec
  have e : apartF F x y = F2 := by unfold apartF; simp only [hF1, hF2]
  rw [e]
  exact h2
theorem sb_union {F : Nat → BdV} {σ : Nat → Nat} (hw : Wd σ) (x y z : Nat) (R : ∀ t, (σ z).testBit t = ((σ x).testBit t || (σ y).testBit t)) (h0 : SB F σ) : SB (unionF F x y z) σ := by
  have o1 : (ones (σ z) : Int) ≤ ones (σ x) + ones (σ y) := by have := ones_or (hw x) (hw y) (hw z) R; omega
  have ox : (ones (σ x) : Int) ≤ ones (σ z) := Int.ofNat_le.2 (ones_sub (hw x) (hw z) fun t k => by rw [R t, k]; simp)
  have oy : (ones (σ y) : Int) ≤ ones (σ z) := Int.ofNat_le.2 (ones_sub (hw y) (hw z) fun t k => by rw [R t, k]; simp)
  obtain ⟨F1, hF1⟩ : ∃ G, intoF F z (((F x).lo ||| (F y).lo)) = G := ⟨_, rfl⟩
  have h1 : SB F1 σ := by
    rw [← hF1]
    refine SB.into h0 z _ (or_lt ((h0.1 _).1) ((h0.1 _).1)) fun t ht => ?_
    rw [Nat.testBit_or, Bool.or_eq_true] at ht
    rcases ht with ht | ht
    · have f := h0.lo x t ht
      have r := R t
      revert f r
      bitdec
    · have f := h0.lo y t ht
      have r := R t
      revert f r
      bitdec
  obtain ⟨F2, hF2⟩ : ∃ G, outF F1 x (nt (F1 z).hi) = G := ⟨_, rfl⟩
  have h2 : SB F2 σ := by
    rw [← hF2]
    refine SB.out hw h1 x _ (nt_lt _) fun t ht => ?_
    have f := h1.nhi z t ht
    have r := R t
    revert f r
    bitdec
  obtain ⟨F3, hF3⟩ : ∃ G, outF F2 y (nt (F2 z).hi) = G := ⟨_, rfl⟩
  have h3 : SB F3 σ := by
    rw [← hF3]
    refine SB.out hw h2 y _ (nt_lt _) fun t ht => ?_
    have f := h2.nhi z t ht
    have r := R t
    revert f r
    bitdec
  obtain ⟨F4, hF4⟩ : ∃ G, outF F3 z ((nt (F3 x).hi &&& nt (F3 y).hi)) = G := ⟨_, rfl⟩
  have h4 : SB F4 σ := by
    rw [← hF4]
    refine SB.out hw h3 z _ (Nat.lt_of_le_of_lt Nat.and_le_left (nt_lt _)) fun t ht => ?_
    rw [Nat.testBit_and, Bool.and_eq_true] at ht
    have f := h3.nhi x t ht.1
    have f2 := h3.nhi y t ht.2
    have r := R t
    revert f f2 r
    bitdec
  obtain ⟨F5, hF5⟩ : ∃ G, intoF F4 x (sub64 (F4 z).lo (F4 y).hi) = G := ⟨_, rfl⟩
  have h5 : SB F5 σ := by
    rw [← hF5]
    refine SB.into h4 x _ (sub64_lt (h4.1 _).1) fun t ht => ?_
    have f := h4.sub z y t ht
    have r := R t
    revert f r
    bitdec
  obtain ⟨F6, hF6⟩ : ∃ G, intoF F5 y (sub64 (F5 z).lo (F5 x).hi) = G := ⟨_, rfl⟩
  have h6 : SB F6 σ := by
    rw [← hF6]
    refine SB.into h5 y _ (sub64_lt (h5.1 _).1) fun t ht => ?_
    have f := h5.sub z x t ht
    have r := R t
    revert f r
    bitdec
  obtain ⟨F7, hF7⟩ : ∃ G, mostF F6 z (((F6 x).mx + (F6 y).mx)) = G := ⟨_, rfl⟩
  have h7 : SB F7 σ := by
    rw [← hF7]
    refine SB.most h6 z _ ?_
    have q1 := (h6.2 x).2.2
    have q2 := (h6.2 y).2.2
    have q3 := (h6.2 z).2.2
    omega
  obtain ⟨F8, hF8⟩ : ∃ G, leastF F7 z ((max (F7 x).mn (F7 y).mn)) = G := ⟨_, rfl⟩
  have h8 : SB F8 σ := by
    rw [← hF8]
    refine SB.least h7 z _ ?_
    have q1 := (h7.2 x).2.2
    have q2 := (h7.2 y).2.2
    have q3 := (h7.2 z).2.2
    omega
  have e : unionF F x y z = F8 := by unfold unionF; simp only [hF1, hF2, hF3, hF4, hF5, hF6, hF7, hF8]
  rw [e]
  exact h8
theorem sb_meet {F : Nat → BdV} {σ : Nat → Nat} (hw : Wd σ) (x y z : Nat) (R : ∀ t, (σ z).testBit t = ((σ x).testBit t && (σ y).testBit t)) (h0 : SB F σ) : SB (meetF F x y z) σ := by
  have ox : (ones (σ z) : Int) ≤ ones (σ x) := Int.ofNat_le.2 (ones_sub (hw z) (hw x) fun t k => by rw [R t, Bool.and_eq_true] at k; exact k.1)
  have oy : (ones (σ z) : Int) ≤ ones (σ y) := Int.ofNat_le.2 (ones_sub (hw z) (hw y) fun t k => by rw [R t, Bool.and_eq_true] at k; exact k.2)
  obtain ⟨F1, hF1⟩ : ∃ G, intoF F z (((F x).lo &&& (F y).lo)) = G := ⟨_, rfl⟩
  have h1 : SB F1 σ := by
    rw [← hF1]
    refine SB.into h0 z _ (Nat.lt_of_le_of_lt Nat.and_le_left ((h0.1 _).1)) fun t ht => ?_
    rw [Nat.testBit_and, Bool.and_eq_true] at ht
    have f := h0.lo x t ht.1
    have f2 := h0.lo y t ht.2
    have r := R t
    revert f f2 r
    bitdec
  obtain ⟨F2, hF2⟩ : ∃ G, intoF F1 x ((F1 z).lo) = G := ⟨_, rfl⟩
  have h2 : SB F2 σ := by
    rw [← hF2]
    refine SB.into h1 x _ ((h1.1 _).1) fun t ht => ?_
    have f := h1.lo z t ht
    have r := R t
    revert f r
    bitdec
  obtain ⟨F3, hF3⟩ : ∃ G, intoF F2 y ((F2 z).lo) = G := ⟨_, rfl⟩
  have h3 : SB F3 σ := by
    rw [← hF3]
    refine SB.into h2 y _ ((h2.1 _).1) fun t ht => ?_
    have f := h2.lo z t ht
    have r := R t
    revert f r
    bitdec
  obtain ⟨F4, hF4⟩ : ∃ G, outF F3 z ((nt (F3 x).hi ||| nt (F3 y).hi)) = G := ⟨_, rfl⟩
  have h4 : SB F4 σ := by
    rw [← hF4]
    refine SB.out hw h3 z _ (or_lt (nt_lt _) (nt_lt _)) fun t ht => ?_
    rw [Nat.testBit_or, Bool.or_eq_true] at ht
    rcases ht with ht | ht
    · have f := h3.nhi x t ht
      have r := R t
      revert f r
      bitdec
    · have f := h3.nhi y t ht
      have r := R t
      revert f r
      bitdec
  obtain ⟨F5, hF5⟩ : ∃ G, outF F4 x (sub64 (F4 y).lo (F4 z).hi) = G := ⟨_, rfl⟩
  have h5 : SB F5 σ := by
    rw [← hF5]
    refine SB.out hw h4 x _ (sub64_lt (h4.1 _).1) fun t ht => ?_
    have f := h4.sub y z t ht
    have r := R t
    revert f r
    bitdec
  obtain ⟨F6, hF6⟩ : ∃ G, outF F5 y (sub64 (F5 x).lo (F5 z).hi) = G := ⟨_, rfl⟩
  have h6 : SB F6 σ := by
    rw [← hF6]
    refine SB.out hw h5 y _ (sub64_lt (h5.1 _).1) fun t ht => ?_
    have f := h5.sub x z t ht
    have r := R t
    revert f r
    bitdec
  obtain ⟨F7, hF7⟩ : ∃ G, mostF F6 z ((min (F6 x).mx (F6 y).mx)) = G := ⟨_, rfl⟩
  have h7 : SB F7 σ := by
    rw [← hF7]
    refine SB.most h6 z _ ?_
    have q1 := (h6.2 x).2.2
    have q2 := (h6.2 y).2.2
    have q3 := (h6.2 z).2.2
    omega
  have e : meetF F x y z = F7 := by unfold meetF; simp only [hF1, hF2, hF3, hF4, hF5, hF6, hF7]
  rw [e]
  exact h7
theorem sb_minus {F : Nat → BdV} {σ : Nat → Nat} (hw : Wd σ) (x y z : Nat) (R : ∀ t, (σ z).testBit t = ((σ x).testBit t && !(σ y).testBit t)) (h0 : SB F σ) : SB (minusF F x y z) σ := by
  have o1 : (ones (σ z) : Int) ≤ ones (σ x) := Int.ofNat_le.2 (ones_sub (hw z) (hw x) fun t k => by rw [R t, Bool.and_eq_true] at k; exact k.1)
  obtain ⟨F1, hF1⟩ : ∃ G, intoF F z (sub64 (F x).lo (F y).hi) = G := ⟨_, rfl⟩
  have h1 : SB F1 σ := by
    rw [← hF1]
    refine SB.into h0 z _ (sub64_lt (h0.1 _).1) fun t ht => ?_
    have f := h0.sub x y t ht
    have r := R t
    revert f r
    bitdec
  obtain ⟨F2, hF2⟩ : ∃ G, intoF F1 x ((F1 z).lo) = G := ⟨_, rfl⟩
  have h2 : SB F2 σ := by
    rw [← hF2]
    refine SB.into h1 x _ ((h1.1 _).1) fun t ht => ?_
    have f := h1.lo z t ht
    have r := R t
    revert f r
    bitdec
  obtain ⟨F3, hF3⟩ : ∃ G, outF F2 y ((F2 z).lo) = G := ⟨_, rfl⟩
  have h3 : SB F3 σ := by
    rw [← hF3]
    refine SB.out hw h2 y _ ((h2.1 _).1) fun t ht => ?_
    have f := h2.lo z t ht
    have r := R t
    revert f r
    bitdec
  obtain ⟨F4, hF4⟩ : ∃ G, outF F3 z ((nt (F3 x).hi ||| (F3 y).lo)) = G := ⟨_, rfl⟩
  have h4 : SB F4 σ := by
    rw [← hF4]
    refine SB.out hw h3 z _ (or_lt (nt_lt _) ((h3.1 _).1)) fun t ht => ?_
    rw [Nat.testBit_or, Bool.or_eq_true] at ht
    rcases ht with ht | ht
    · have f := h3.nhi x t ht
      have r := R t
      revert f r
      bitdec
    · have f := h3.lo y t ht
      have r := R t
      revert f r
      bitdec
  obtain ⟨F5, hF5⟩ : ∃ G, intoF F4 y (sub64 (F4 x).lo (F4 z).hi) = G := ⟨_, rfl⟩
  have h5 : SB F5 σ := by
    rw [← hF5]
    refine SB.into h4 y _ (sub64_lt (h4.1 _).1) fun t ht => ?_
    have f := h4.sub x z t ht
    have r := R t
    revert f r
    bitdec
  obtain ⟨F6, hF6⟩ : ∃ G, mostF F5 z ((F5 x).mx) = G := ⟨_, rfl⟩
  have h6 : SB F6 σ := by
    rw [← hF6]
    refine SB.most h5 z _ ?_
    have q1 := (h5.2 x).2.2
    have q2 := (h5.2 y).2.2
    have q3 := (h5.2 z).2.2
    omega
  have e : minusF F x y z = F6 := by unfold minusF; simp only [hF1, hF2, hF3, hF4, hF5, hF6]
  rw [e]
  exact h6
/-- what a relation says of sets -/
def relS (d : Kd) (x y z : Nat) (N : Int) (σ : Nat → Nat) : Prop := match d with
  | .part => ∀ t, (σ x).testBit t = true → (σ y).testBit t = true
  | .apart => ∀ t, (σ x).testBit t = true → (σ y).testBit t = false
  | .union => ∀ t, (σ z).testBit t = ((σ x).testBit t || (σ y).testBit t)
  | .meet => ∀ t, (σ z).testBit t = ((σ x).testBit t && (σ y).testBit t)
  | .minus => ∀ t, (σ z).testBit t = ((σ x).testBit t && !(σ y).testBit t)
  | .has => inR N = true ∧ (σ x).testBit N.toNat = true
  | .lacks => inR N = true → (σ x).testBit N.toNat = false
  | .size => (ones (σ x) : Int) = N
  | .none => False
theorem inR_lt {N : Int} (h : inR N = true) : N.toNat < 64 := by
  simp only [inR, Bool.and_eq_true, decide_eq_true_eq] at h
  omega
theorem sb_rel {d : Kd} {vs : List Int} {N : Int} {F : Nat → BdV} {σ : Nat → Nat} (hw : Wd σ) (h : SB F σ) (R : relS d (vs.getD 0 0).toNat (vs.getD 1 0).toNat (vs.getD 2 0).toNat N σ) : ∃ G, relF d vs N F = some G ∧ SB G σ := by
  unfold relF
  cases d <;> dsimp only [relS] at R ⊢
  case part => exact ⟨_, rfl, sb_part hw _ _ 0 R h⟩
  case apart => exact ⟨_, rfl, sb_apart hw _ _ 0 R h⟩
  case union => exact ⟨_, rfl, sb_union hw _ _ _ R h⟩
  case meet => exact ⟨_, rfl, sb_meet hw _ _ _ R h⟩
  case minus => exact ⟨_, rfl, sb_minus hw _ _ _ R h⟩
  case has =>
    rw [if_pos R.1]
    refine ⟨_, rfl, h.into _ _ (Nat.pow_lt_pow_right (n := 64) (by decide) (inR_lt R.1)) fun t ht => ?_⟩
    rw [Nat.testBit_two_pow] at ht
    rw [← of_decide_eq_true ht]; exact R.2
  case lacks =>
    by_cases hN : inR N = true
    · rw [if_pos hN]
      refine ⟨_, rfl, SB.out hw h _ _ (Nat.pow_lt_pow_right (n := 64) (by decide) (inR_lt hN)) fun t ht => ?_⟩
      rw [Nat.testBit_two_pow] at ht
      rw [← of_decide_eq_true ht]; exact R hN
    · rw [if_neg hN]
      exact ⟨_, rfl, h⟩
  case size => exact ⟨_, rfl, (h.least _ _ (by omega)).most _ _ (by omega)⟩
end Go.Proofs.YthakhdbakmlooaaDoor

/-
  Plain: settling loses no sets for which all relations hold.
-/
namespace Go.Proofs.YthakhdbakmlooaaDoor
set_option linter.unusedSimpArgs false
open Go Go.RowKit Go.Shelf Go.Ev

theorem inB_has {b : BdV} {S : Nat} (h1 : b.lo < 18446744073709551616) (h2 : b.hi < 18446744073709551616) (hS : S < 18446744073709551616) : InB b S ↔ hasN b.lo b.hi S b.mn b.mx (ones S) = true := by
  rw [hasN_iff, sub_zero h1 hS, sub_zero hS h2]
  exact Iff.rfl
theorem inB_norm {b : BdV} {S : Nat} (h1 : b.lo < 18446744073709551616) (h2 : b.hi < 18446744073709551616) (hS : S < 18446744073709551616) (h : InB b S) : okB b = true ∧ InB (normB b) S := by
  have hh := (inB_has h1 h2 hS).1 h
  have hk := has_ok h1 h2 hS hh
  refine ⟨hk, (inB_has (nlo_lt h1 h2) (nhi_lt h1 h2) hS).2 ?_⟩
  have := has_normal h1 h2 hS hk
  rw [← hh]
  exact this
theorem sb_norms {σ : Nat → Nat} (hw : Wd σ) : ∀ (vs : List Int) (F : Nat → BdV), SB F σ → (normsF F vs).1 = true ∧ SB (normsF F vs).2 σ
  | [], _, h => ⟨rfl, h⟩
  | v :: vs, F, h => by
    have hn := inB_norm (h.1 v.toNat).1 (h.1 v.toNat).2 (hw v.toNat) (h.2 v.toNat)
    rw [normsF_cons_ok hn.1]
    exact sb_norms hw vs _ (h.upd _ _ (nlo_lt (h.1 _).1 (h.1 _).2) (nhi_lt (h.1 _).1 (h.1 _).2) hn.2)
theorem sb_follow {d : Kd} {vs : List Int} {N : Int} {F : Nat → BdV} {σ : Nat → Nat} (hw : Wd σ) (h : SB F σ) (R : relS d (vs.getD 0 0).toNat (vs.getD 1 0).toNat (vs.getD 2 0).toNat N σ) : (followF d vs N F).1 = true ∧ SB (followF d vs N F).2 σ := by
  obtain ⟨G, hG, hs⟩ := sb_rel hw h R
  unfold followF
  rw [hG]
  exact sb_norms hw vs G hs
/-- what a relation as it lies says of sets -/
def RelV.holds (r : RelV) (σ : Nat → Nat) : Prop := relS r.d (r.vs.getD 0 0).toNat (r.vs.getD 1 0).toNat (r.vs.getD 2 0).toNat r.N σ
theorem sb_pass {σ : Nat → Nat} (hw : Wd σ) : ∀ (rs : List RelV) (F : Nat → BdV), (∀ r ∈ rs, r.holds σ) → SB F σ → (passF rs F).1 = true ∧ SB (passF rs F).2 σ
  | [], _, _, h => ⟨rfl, h⟩
  | r :: rs, F, hr, h => by
    have f := sb_follow hw h (hr r List.mem_cons_self)
    unfold passF
    rw [if_pos f.1]
    exact sb_pass hw rs _ (fun r' h' => hr r' (List.mem_cons_of_mem _ h')) f.2
/-- NO SETS ARE LOST -/
theorem sb_sett {rs : List RelV} {n : Nat} {F H : Nat → BdV} {b : Bool} {σ : Nat → Nat} (hw : Wd σ) (hr : ∀ r ∈ rs, r.holds σ) (s : Sett rs n F b H) : SB F σ → b = true ∧ SB H σ := by
  induction s with
  | fail hf => intro h; have := (sb_pass hw rs _ hr h).1; rw [hf] at this; cases this
  | done _ _ => intro h; exact ⟨rfl, (sb_pass hw rs _ hr h).2⟩
  | next _ _ _ ih => intro h; exact ih (sb_pass hw rs _ hr h).2
/-- what normalizing gives lasts -/
theorem norms_P {P : BdV → Prop} (hP : ∀ b : BdV, b.lo < 18446744073709551616 → b.hi < 18446744073709551616 → okB b = true → P (normB b)) : ∀ (vs : List Int) (F : Nat → BdV), Bits F → (normsF F vs).1 = true → ∀ i, i ∈ plc vs → P ((normsF F vs).2 i)
  | [], _, _, _ => fun _ h => absurd h (by simp [plc])
  | v :: vs, F, hB, h => fun i hi => by
    cases hk : okB (F v.toNat) with
    | false => rw [normsF_cons_bad hk] at h; cases h
    | true =>
      rw [normsF_cons_ok hk] at h ⊢
      by_cases hv : i ∈ plc vs
      · exact norms_P hP vs _ (bits_norm hB v.toNat) h i hv
      · rcases List.mem_cons.1 hi with e | e
        · rw [(norms_stp vs _ (bits_norm hB v.toNat) h).1.2 i hv, e, upd_same]
          exact hP _ (hB v.toNat).1 (hB v.toNat).2 hk
        · exact absurd e hv
theorem follow_P {P : BdV → Prop} (hP : ∀ b : BdV, b.lo < 18446744073709551616 → b.hi < 18446744073709551616 → okB b = true → P (normB b)) {d : Kd} {vs : List Int} {n : Int} {F : Nat → BdV} {m : Nat} (hm : varsN d = some m) (hl : vs.length = m) (hB : Bits F) (hF : ∀ i, P (F i)) (h : (followF d vs n F).1 = true) : ∀ i, P ((followF d vs n F).2 i) := by
  unfold followF at h ⊢
  cases hr : relF d vs n F with
  | none => rw [hr] at h; cases h
  | some G =>
    rw [hr] at h
    dsimp only at h ⊢
    intro i
    by_cases hv : i ∈ plc vs
    · exact norms_P hP vs G (bits_rel hB hr) h i hv
    · rw [((stp_rel hm hl hr).trans (norms_stp vs G (bits_rel hB hr) h).1).2 i hv]; exact hF i
theorem pass_P {P : BdV → Prop} (hP : ∀ b : BdV, b.lo < 18446744073709551616 → b.hi < 18446744073709551616 → okB b = true → P (normB b)) : ∀ (rs : List RelV) (F : Nat → BdV), (∀ r ∈ rs, ∃ m, varsN r.d = some m ∧ r.vs.length = m) → Fine F → (∀ i, P (F i)) → (passF rs F).1 = true → ∀ i, P ((passF rs F).2 i)
  | [], _, _, _, hF, _ => hF
  | r :: rs, F, hr, hf, hF, h => by
    obtain ⟨m, hm, hl⟩ := hr r List.mem_cons_self
    unfold passF at h ⊢
    by_cases hk : (followF r.d r.vs r.N F).1 = true
    · rw [if_pos hk] at h ⊢
      exact pass_P hP rs _ (fun r' h' => hr r' (List.mem_cons_of_mem _ h')) (follow_stp hm hl hf hk).2 (follow_P hP hm hl hf.bits hF hk) h
    · rw [if_neg hk] at h; cases h
theorem sett_P {P : BdV → Prop} (hP : ∀ b : BdV, b.lo < 18446744073709551616 → b.hi < 18446744073709551616 → okB b = true → P (normB b)) {rs : List RelV} {n : Nat} {F H : Nat → BdV} {b : Bool} (hr : ∀ r ∈ rs, ∃ m, varsN r.d = some m ∧ r.vs.length = m) (s : Sett rs n F b H) : Fine F → (∀ i, P (F i)) → b = true → (∀ i, P (H i)) ∧ (∀ i, nar (H i) (F i)) ∧ Fine H := by
  induction s with
  | fail _ => intro _ _ h; cases h
  | done h1 _ => intro hf hp _; exact ⟨pass_P hP rs _ hr hf hp h1, pass_stp rs _ hr hf h1⟩
  | next h1 _ _ ih =>
    intro hf hp hb
    have p := pass_stp rs _ hr hf h1
    obtain ⟨i1, i2, i3⟩ := ih p.2 (pass_P hP rs _ hr hf hp h1) hb
    exact ⟨i1, fun i => (i2 i).trans (p.1 i), i3⟩
/-- only places of the row change, so what is the same in the row is the same -/
theorem nar.anti {a b : BdV} (h : nar a b) (k : nar b a) : a = b := by
  obtain ⟨h1, h2, h3, h4⟩ := h
  obtain ⟨k1, k2, k3, k4⟩ := k
  cases a; cases b
  simp only at *
  simp only [BdV.mk.injEq]
  omega
theorem pass_off : ∀ (rs : List RelV) (F : Nat → BdV) (n : Nat), (∀ r ∈ rs, relB r.d r.vs n = true) → Fine F → (passF rs F).1 = true → ∀ i, n ≤ i → (passF rs F).2 i = F i
  | [], _, _, _, _, _ => fun _ _ => rfl
  | r :: rs, F, n, hr, hf, h => fun i hi => by
    obtain ⟨m, hm, hl, hin, _⟩ := relV_parts (hr r List.mem_cons_self)
    unfold passF at h ⊢
    by_cases hk : (followF r.d r.vs r.N F).1 = true
    · rw [if_pos hk] at h ⊢
      rw [pass_off rs _ n (fun r' h' => hr r' (List.mem_cons_of_mem _ h')) (follow_stp hm hl hf hk).2 h i hi]
      unfold followF at hk ⊢
      cases hq : relF r.d r.vs r.N F with
      | none => rw [hq] at hk
      | some G =>
        rw [hq] at hk
        dsimp only at hk ⊢
        refine ((stp_rel hm hl hq).trans (norms_stp r.vs G (bits_rel hf.bits hq) hk).1).2 i fun hm' => ?_
        obtain ⟨x, hx, rfl⟩ := List.mem_map.1 hm'
        have := hin x hx
        omega
    · rw [if_neg hk] at h; cases h
/-- where a pass leaves all as it was, each relation does -/
theorem pass_same : ∀ (rs : List RelV) (F : Nat → BdV), (∀ r ∈ rs, ∃ m, varsN r.d = some m ∧ r.vs.length = m) → Fine F → (passF rs F).1 = true → (passF rs F).2 = F → ∀ r ∈ rs, followF r.d r.vs r.N F = (true, F)
  | [], _, _, _, _, _ => fun _ h => absurd h (by simp)
  | r :: rs, F, hr, hf, h, he => by
    obtain ⟨m, hm, hl⟩ := hr r List.mem_cons_self
    unfold passF at h he
    by_cases hk : (followF r.d r.vs r.N F).1 = true
    · rw [if_pos hk] at h he
      have f := follow_stp hm hl hf hk
      have p := pass_stp rs _ (fun r' h' => hr r' (List.mem_cons_of_mem _ h')) f.2 h
      have hFF : (followF r.d r.vs r.N F).2 = F := funext fun i => (f.1 i).anti (by have := p.1 i; rwa [he] at this)
      have h0 : followF r.d r.vs r.N F = (true, F) := Prod.ext hk hFF
      rw [hFF] at h he
      intro r' h'
      rcases List.mem_cons.1 h' with rfl | h'
      · exact h0
      · exact pass_same rs F (fun r2 h2 => hr r2 (List.mem_cons_of_mem _ h2)) hf h he r' h'
    · rw [if_neg hk] at h; cases h
/-- WHERE SETTLING ENDS WELL, NOTHING MORE FOLLOWS -/
theorem sett_end {rs : List RelV} {n : Nat} {F H : Nat → BdV} {b : Bool} (hr : ∀ r ∈ rs, relB r.d r.vs n = true) (s : Sett rs n F b H) : Fine F → b = true → ∀ r ∈ rs, followF r.d r.vs r.N H = (true, H) := by
  have hr' : ∀ r ∈ rs, ∃ m, varsN r.d = some m ∧ r.vs.length = m := fun r h => by
    obtain ⟨m, hm, hl, _⟩ := relV_parts (hr r h)
    exact ⟨m, hm, hl⟩
  induction s with
  | fail _ => intro _ h; cases h
  | done h1 h2 =>
    rename_i F
    intro hf _
    have he : (passF rs F).2 = F := funext fun i => by
      by_cases hi : i < n
      · exact h2 i hi
      · exact pass_off rs F n hr hf h1 i (by omega)
    rw [he]
    exact pass_same rs F hr' hf h1 he
  | next h1 _ _ ih => intro hf hb; exact ih (pass_stp rs _ hr' hf h1).2 hb
end Go.Proofs.YthakhdbakmlooaaDoor

/-
  Plain: where nothing more follows of fixed families, the relation holds.
-/
namespace Go.Proofs.YthakhdbakmlooaaDoor
set_option linter.unusedSimpArgs false
set_option linter.unusedVariables false
open Go Go.RowKit Go.Shelf Go.Ev

theorem Stp.anti {S : List Nat} {F G : Nat → BdV} (h : Stp S F G) (k : Stp S G F) : G = F := funext fun i => (h.1 i).anti (k.1 i)
theorem into_same {F : Nat → BdV} {x s : Nat} (h : intoF F x s = F) (t : Nat) (k : s.testBit t = true) : (F x).lo.testBit t = true := by
  have := congrArg BdV.lo (congrFun h x)
  unfold intoF at this
  rw [upd_same] at this
  dsimp only at this
  rw [← this, Nat.testBit_or, k, Bool.or_true]
theorem out_same {F : Nat → BdV} {x s : Nat} (hs : s < 18446744073709551616) (h : outF F x s = F) (t : Nat) (k : s.testBit t = true) : (F x).hi.testBit t = false := by
  have := congrArg BdV.hi (congrFun h x)
  unfold outF at this
  rw [upd_same] at this
  dsimp only at this
  rw [← this, sub_bit hs, k]
  simp
theorem least_same {F : Nat → BdV} {x : Nat} {k : Int} (h : leastF F x k = F) : k ≤ (F x).mn := by
  have := congrArg BdV.mn (congrFun h x)
  unfold leastF at this
  rw [upd_same] at this
  dsimp only at this
  omega
theorem most_same {F : Nat → BdV} {x : Nat} {k : Int} (h : mostF F x k = F) : (F x).mx ≤ k := by
  have := congrArg BdV.mx (congrFun h x)
  unfold mostF at this
  rw [upd_same] at this
  dsimp only at this
  omega
theorem nt_test {x : Nat} (hx : x < 18446744073709551616) (t : Nat) : (nt x).testBit t = (decide (t < 64) && !x.testBit t) := by
  have e : nt x = 2 ^ 64 - (x + 1) := by
    unfold nt
    have : (2 : Nat) ^ 64 = 18446744073709551616 := by decide
    omega
  rw [e, Nat.testBit_two_pow_sub_succ (show x < 2 ^ 64 from hx)]
theorem big_bit {x t : Nat} (hx : x < 18446744073709551616) (ht : ¬ t < 64) : x.testBit t = false := Nat.testBit_lt_two_pow (Nat.lt_of_lt_of_le hx (Nat.pow_le_pow_right (n := 2) (by decide) (show 64 ≤ t by omega)))
theorem same_part {S : List Nat} {F : Nat → BdV} {x y : Nat} (hx : x ∈ S) (hy : y ∈ S) (h : partF F x y = F) : intoF F y ((F x).lo) = F := by
  obtain ⟨F1, hF1⟩ : ∃ G, intoF F y ((F x).lo) = G := ⟨_, rfl⟩
  have s1 : Stp S F F1 := by rw [← hF1]; exact Stp.into hy _ _
  obtain ⟨F2, hF2⟩ : ∃ G, outF F1 x (nt (F1 y).hi) = G := ⟨_, rfl⟩
  have s2 : Stp S F1 F2 := by rw [← hF2]; exact Stp.out hx _ _
  obtain ⟨F3, hF3⟩ : ∃ G, mostF F2 x ((F2 y).mx) = G := ⟨_, rfl⟩
  have s3 : Stp S F2 F3 := by rw [← hF3]; exact Stp.most hx _ _
  obtain ⟨F4, hF4⟩ : ∃ G, leastF F3 y ((F3 x).mn) = G := ⟨_, rfl⟩
  have s4 : Stp S F3 F4 := by rw [← hF4]; exact Stp.least hy _ _
  have e : partF F x y = F4 := by unfold partF; simp only [hF1, hF2, hF3, hF4]
  have t4 : Stp S F4 F := by rw [← e, h]; exact Stp.refl _ _
  have t3 : Stp S F3 F := s4.trans t4
  have t2 : Stp S F2 F := s3.trans t3
  have t1 : Stp S F1 F := s2.trans t2
  have u1 : Stp S F F1 := s1
  have e1 : F1 = F := u1.anti t1
  rw [e1] at hF1
  exact hF1
theorem same_apart {S : List Nat} {F : Nat → BdV} {x y : Nat} (hx : x ∈ S) (hy : y ∈ S) (h : apartF F x y = F) : outF F x ((F y).lo) = F := by
  obtain ⟨F1, hF1⟩ : ∃ G, outF F x ((F y).lo) = G := ⟨_, rfl⟩
  have s1 : Stp S F F1 := by rw [← hF1]; exact Stp.out hx _ _
  obtain ⟨F2, hF2⟩ : ∃ G, outF F1 y ((F1 x).lo) = G := ⟨_, rfl⟩
  have s2 : Stp S F1 F2 := by rw [← hF2]; exact Stp.out hy _ _
  have e : apartF F x y = F2 := by unfold apartF; simp only [hF1, hF2]
  have t2 : Stp S F2 F := by rw [← e, h]; exact Stp.refl _ _
  have t1 : Stp S F1 F := s2.trans t2
  have u1 : Stp S F F1 := s1
  have e1 : F1 = F := u1.anti t1
  rw [e1] at hF1
  exact hF1
theorem same_union {S : List Nat} {F : Nat → BdV} {x y z : Nat} (hx : x ∈ S) (hy : y ∈ S) (hz : z ∈ S) (h : unionF F x y z = F) : intoF F z (((F x).lo ||| (F y).lo)) = F ∧ outF F z ((nt (F x).hi &&& nt (F y).hi)) = F := by
  obtain ⟨F1, hF1⟩ : ∃ G, intoF F z (((F x).lo ||| (F y).lo)) = G := ⟨_, rfl⟩
  have s1 : Stp S F F1 := by rw [← hF1]; exact Stp.into hz _ _
  obtain ⟨F2, hF2⟩ : ∃ G, outF F1 x (nt (F1 z).hi) = G := ⟨_, rfl⟩
  have s2 : Stp S F1 F2 := by rw [← hF2]; exact Stp.out hx _ _
  obtain ⟨F3, hF3⟩ : ∃ G, outF F2 y (nt (F2 z).hi) = G := ⟨_, rfl⟩
  have s3 : Stp S F2 F3 := by rw [← hF3]; exact Stp.out hy _ _
  obtain ⟨F4, hF4⟩ : ∃ G, outF F3 z ((nt (F3 x).hi &&& nt (F3 y).hi)) = G := ⟨_, rfl⟩
  have s4 : Stp S F3 F4 := by rw [← hF4]; exact Stp.out hz _ _
  obtain ⟨F5, hF5⟩ : ∃ G, intoF F4 x (sub64 (F4 z).lo (F4 y).hi) = G := ⟨_, rfl⟩
  have s5 : Stp S F4 F5 := by rw [← hF5]; exact Stp.into hx _ _
  obtain ⟨F6, hF6⟩ : ∃ G, intoF F5 y (sub64 (F5 z).lo (F5 x).hi) = G := ⟨_, rfl⟩
  have s6 : Stp S F5 F6 := by rw [← hF6]; exact Stp.into hy _ _
  obtain ⟨F7, hF7⟩ : ∃ G, mostF F6 z (((F6 x).mx + (F6 y).mx)) = G := ⟨_, rfl⟩
  have s7 : Stp S F6 F7 := by rw [← hF7]; exact Stp.most hz _ _
  obtain ⟨F8, hF8⟩ : ∃ G, leastF F7 z ((max (F7 x).mn (F7 y).mn)) = G := ⟨_, rfl⟩
  have s8 : Stp S F7 F8 := by rw [← hF8]; exact Stp.least hz _ _
  have e : unionF F x y z = F8 := by unfold unionF; simp only [hF1, hF2, hF3, hF4, hF5, hF6, hF7, hF8]
  have t8 : Stp S F8 F := by rw [← e, h]; exact Stp.refl _ _
  have t7 : Stp S F7 F := s8.trans t8
  have t6 : Stp S F6 F := s7.trans t7
  have t5 : Stp S F5 F := s6.trans t6
  have t4 : Stp S F4 F := s5.trans t5
  have t3 : Stp S F3 F := s4.trans t4
  have t2 : Stp S F2 F := s3.trans t3
  have t1 : Stp S F1 F := s2.trans t2
  have u1 : Stp S F F1 := s1
  have e1 : F1 = F := u1.anti t1
  rw [e1] at hF1
  have u2 : Stp S F F2 := u1.trans s2
  have e2 : F2 = F := u2.anti t2
  have u3 : Stp S F F3 := u2.trans s3
  have e3 : F3 = F := u3.anti t3
  have u4 : Stp S F F4 := u3.trans s4
  have e4 : F4 = F := u4.anti t4
  rw [e3, e4] at hF4
  exact ⟨hF1, hF4⟩
theorem same_meet {S : List Nat} {F : Nat → BdV} {x y z : Nat} (hx : x ∈ S) (hy : y ∈ S) (hz : z ∈ S) (h : meetF F x y z = F) : intoF F z (((F x).lo &&& (F y).lo)) = F ∧ outF F z ((nt (F x).hi ||| nt (F y).hi)) = F := by
  obtain ⟨F1, hF1⟩ : ∃ G, intoF F z (((F x).lo &&& (F y).lo)) = G := ⟨_, rfl⟩
  have s1 : Stp S F F1 := by rw [← hF1]; exact Stp.into hz _ _
  obtain ⟨F2, hF2⟩ : ∃ G, intoF F1 x ((F1 z).lo) = G := ⟨_, rfl⟩
  have s2 : Stp S F1 F2 := by rw [← hF2]; exact Stp.into hx _ _
  obtain ⟨F3, hF3⟩ : ∃ G, intoF F2 y ((F2 z).lo) = G := ⟨_, rfl⟩
  have s3 : Stp S F2 F3 := by rw [← hF3]; exact Stp.into hy _ _
  obtain ⟨F4, hF4⟩ : ∃ G, outF F3 z ((nt (F3 x).hi ||| nt (F3 y).hi)) = G := ⟨_, rfl⟩
  have s4 : Stp S F3 F4 := by rw [← hF4]; exact Stp.out hz _ _
  obtain ⟨F5, hF5⟩ : ∃ G, outF F4 x (sub64 (F4 y).lo (F4 z).hi) = G := ⟨_, rfl⟩
  have s5 : Stp S F4 F5 := by rw [← hF5]; exact Stp.out hx _ _
  obtain ⟨F6, hF6⟩ : ∃ G, outF F5 y (sub64 (F5 x).lo (F5 z).hi) = G := ⟨_, rfl⟩
  have s6 : Stp S F5 F6 := by rw [← hF6]; exact Stp.out hy _ _
  obtain ⟨F7, hF7⟩ : ∃ G, mostF F6 z ((min (F6 x).mx (F6 y).mx)) = G := ⟨_, rfl⟩
  have s7 : Stp S F6 F7 := by rw [← hF7]; exact Stp.most hz _ _
  have e : meetF F x y z = F7 := by unfold meetF; simp only [hF1, hF2, hF3, hF4, hF5, hF6, hF7]
  have t7 : Stp S F7 F := by rw [← e, h]; exact Stp.refl _ _
  have t6 : Stp S F6 F := s7.trans t7
  have t5 : Stp S F5 F := s6.trans t6
  have t4 : Stp S F4 F := s5.trans t5
  have t3 : Stp S F3 F := s4.trans t4
  have t2 : Stp S F2 F := s3.trans t3
  have t1 : Stp S F1 F := s2.trans t2
  have u1 : Stp S F F1 := s1
  have e1 : F1 = F := u1.anti t1
  rw [e1] at hF1
  have u2 : Stp S F F2 := u1.trans s2
  have e2 : F2 = F := u2.anti t2
  have u3 : Stp S F F3 := u2.trans s3
  have e3 : F3 = F := u3.anti t3
  have u4 : Stp S F F4 := u3.trans s4
  have e4 : F4 = F := u4.anti t4
  rw [e3, e4] at hF4
  exact ⟨hF1, hF4⟩
theorem same_minus {S : List Nat} {F : Nat → BdV} {x y z : Nat} (hx : x ∈ S) (hy : y ∈ S) (hz : z ∈ S) (h : minusF F x y z = F) : intoF F z (sub64 (F x).lo (F y).hi) = F ∧ intoF F x ((F z).lo) = F ∧ outF F y ((F z).lo) = F := by
  obtain ⟨F1, hF1⟩ : ∃ G, intoF F z (sub64 (F x).lo (F y).hi) = G := ⟨_, rfl⟩
  have s1 : Stp S F F1 := by rw [← hF1]; exact Stp.into hz _ _
  obtain ⟨F2, hF2⟩ : ∃ G, intoF F1 x ((F1 z).lo) = G := ⟨_, rfl⟩
  have s2 : Stp S F1 F2 := by rw [← hF2]; exact Stp.into hx _ _
  obtain ⟨F3, hF3⟩ : ∃ G, outF F2 y ((F2 z).lo) = G := ⟨_, rfl⟩
  have s3 : Stp S F2 F3 := by rw [← hF3]; exact Stp.out hy _ _
  obtain ⟨F4, hF4⟩ : ∃ G, outF F3 z ((nt (F3 x).hi ||| (F3 y).lo)) = G := ⟨_, rfl⟩
  have s4 : Stp S F3 F4 := by rw [← hF4]; exact Stp.out hz _ _
  obtain ⟨F5, hF5⟩ : ∃ G, intoF F4 y (sub64 (F4 x).lo (F4 z).hi) = G := ⟨_, rfl⟩
  have s5 : Stp S F4 F5 := by rw [← hF5]; exact Stp.into hy _ _
  obtain ⟨F6, hF6⟩ : ∃ G, mostF F5 z ((F5 x).mx) = G := ⟨_, rfl⟩
  have s6 : Stp S F5 F6 := by rw [← hF6]; exact Stp.most hz _ _
  have e : minusF F x y z = F6 := by unfold minusF; simp only [hF1, hF2, hF3, hF4, hF5, hF6]
  have t6 : Stp S F6 F := by rw [← e, h]; exact Stp.refl _ _
  have t5 : Stp S F5 F := s6.trans t6
  have t4 : Stp S F4 F := s5.trans t5
  have t3 : Stp S F3 F := s4.trans t4
  have t2 : Stp S F2 F := s3.trans t3
  have t1 : Stp S F1 F := s2.trans t2
  have u1 : Stp S F F1 := s1
  have e1 : F1 = F := u1.anti t1
  rw [e1] at hF1
  have u2 : Stp S F F2 := u1.trans s2
  have e2 : F2 = F := u2.anti t2
  rw [e1, e2] at hF2
  have u3 : Stp S F F3 := u2.trans s3
  have e3 : F3 = F := u3.anti t3
  rw [e2, e3] at hF3
  exact ⟨hF1, hF2, hF3⟩
/-- all families are these sets -/
def Fx (F : Nat → BdV) (σ : Nat → Nat) : Prop := ∀ i, (F i).lo = σ i ∧ (F i).hi = σ i ∧ (F i).mn = ones (σ i) ∧ (F i).mx = ones (σ i)
theorem fixed_rel {d : Kd} {vs : List Int} {N : Int} {F : Nat → BdV} {σ : Nat → Nat} {m : Nat} (hm : varsN d = some m) (hl : vs.length = m) (hw : Wd σ) (hx : Fx F σ) (h : relF d vs N F = some F) : relS d (vs.getD 0 0).toNat (vs.getD 1 0).toNat (vs.getD 2 0).toNat N σ := by
  unfold relF at h
  cases d <;> simp only [varsN, Option.some.injEq, reduceCtorEq] at hm <;> dsimp only [relS] at h ⊢
  case part =>
    simp only [Option.some.injEq] at h
    have k := same_part (plc_getD (vs := vs) (j := 0) (by omega)) (plc_getD (vs := vs) (j := 1) (by omega)) h
    generalize (vs.getD 0 0).toNat = x at *
    generalize (vs.getD 1 0).toNat = y at *
    intro t ht
    have := into_same k t (by rw [(hx x).1]; exact ht)
    rwa [(hx y).1] at this
  case apart =>
    simp only [Option.some.injEq] at h
    have k := same_apart (plc_getD (vs := vs) (j := 0) (by omega)) (plc_getD (vs := vs) (j := 1) (by omega)) h
    generalize (vs.getD 0 0).toNat = x at *
    generalize (vs.getD 1 0).toNat = y at *
    intro t ht
    cases e : (σ y).testBit t
    · rfl
    · have := out_same (by rw [(hx y).1]; exact hw y) k t (by rw [(hx y).1]; exact e)
      rw [(hx x).2.1, ht] at this; cases this
  case union =>
    simp only [Option.some.injEq] at h
    obtain ⟨k1, k2⟩ := same_union (plc_getD (vs := vs) (j := 0) (by omega)) (plc_getD (vs := vs) (j := 1) (by omega)) (plc_getD (vs := vs) (j := 2) (by omega)) h
    generalize (vs.getD 0 0).toNat = x at *
    generalize (vs.getD 1 0).toNat = y at *
    generalize (vs.getD 2 0).toNat = z at *
    intro t
    by_cases ht : t < 64
    · have a := into_same k1 t
      have b := out_same (Nat.lt_of_le_of_lt Nat.and_le_left (nt_lt _)) k2 t
      rw [(hx x).1, (hx y).1, (hx z).1, Nat.testBit_or] at a
      rw [(hx x).2.1, (hx y).2.1, (hx z).2.1, Nat.testBit_and, nt_test (hw x), nt_test (hw y)] at b
      simp only [ht, decide_true, Bool.true_and] at b
      revert a b
      generalize (σ x).testBit t = p
      generalize (σ y).testBit t = q
      generalize (σ z).testBit t = r
      revert p q r
      decide
    · rw [big_bit (hw x) ht, big_bit (hw y) ht, big_bit (hw z) ht]; rfl
  case meet =>
    simp only [Option.some.injEq] at h
    obtain ⟨k1, k2⟩ := same_meet (plc_getD (vs := vs) (j := 0) (by omega)) (plc_getD (vs := vs) (j := 1) (by omega)) (plc_getD (vs := vs) (j := 2) (by omega)) h
    generalize (vs.getD 0 0).toNat = x at *
    generalize (vs.getD 1 0).toNat = y at *
    generalize (vs.getD 2 0).toNat = z at *
    intro t
    by_cases ht : t < 64
    · have a := into_same k1 t
      have b := out_same (or_lt (nt_lt _) (nt_lt _)) k2 t
      rw [(hx x).1, (hx y).1, (hx z).1, Nat.testBit_and] at a
      rw [(hx x).2.1, (hx y).2.1, (hx z).2.1, Nat.testBit_or, nt_test (hw x), nt_test (hw y)] at b
      simp only [ht, decide_true, Bool.true_and] at b
      revert a b
      generalize (σ x).testBit t = p
      generalize (σ y).testBit t = q
      generalize (σ z).testBit t = r
      revert p q r
      decide
    · rw [big_bit (hw x) ht, big_bit (hw y) ht, big_bit (hw z) ht]; rfl
  case minus =>
    simp only [Option.some.injEq] at h
    obtain ⟨k1, k2, k3⟩ := same_minus (plc_getD (vs := vs) (j := 0) (by omega)) (plc_getD (vs := vs) (j := 1) (by omega)) (plc_getD (vs := vs) (j := 2) (by omega)) h
    generalize (vs.getD 0 0).toNat = x at *
    generalize (vs.getD 1 0).toNat = y at *
    generalize (vs.getD 2 0).toNat = z at *
    intro t
    by_cases ht : t < 64
    · have a := into_same k1 t
      have b := into_same k2 t
      have c := out_same (by rw [(hx z).1]; exact hw z) k3 t
      rw [(hx z).1, (hx x).1, (hx y).2.1, sub_bit (hw y)] at a
      rw [(hx z).1, (hx x).1] at b
      rw [(hx z).1, (hx y).2.1] at c
      simp only [ht, decide_true, Bool.true_and] at a
      revert a b c
      generalize (σ x).testBit t = p
      generalize (σ y).testBit t = q
      generalize (σ z).testBit t = r
      revert p q r
      decide
    · rw [big_bit (hw x) ht, big_bit (hw y) ht, big_bit (hw z) ht]; rfl
  case has =>
    split at h
    · next hN =>
      simp only [Option.some.injEq] at h
      refine ⟨hN, ?_⟩
      rw [← (hx _).1]
      exact into_same h _ (by rw [Nat.testBit_two_pow]; simp)
    · cases h
  case lacks =>
    intro hN
    rw [if_pos hN] at h
    simp only [Option.some.injEq] at h
    rw [← (hx _).2.1]
    exact out_same (Nat.pow_lt_pow_right (n := 64) (by decide) (inR_lt hN)) h _ (by rw [Nat.testBit_two_pow]; simp)
  case size =>
    simp only [Option.some.injEq] at h
    have hp := plc_getD (vs := vs) (j := 0) (by omega)
    generalize (vs.getD 0 0).toNat = x at *
    obtain ⟨F1, hF1⟩ : ∃ G, leastF F x N = G := ⟨_, rfl⟩
    rw [hF1] at h
    have s1 : Stp (plc vs) F F1 := by rw [← hF1]; exact Stp.least hp _ _
    have s2 : Stp (plc vs) F1 F := by
      have := Stp.most hp F1 N
      rwa [h] at this
    have e1 : F1 = F := s1.anti s2
    rw [e1] at h hF1
    have a := least_same hF1
    have b := most_same h
    rw [(hx x).2.2.1] at a
    rw [(hx x).2.2.2] at b
    omega
/-- where following leaves all as it was, so does what follows ahead of normalizing -/
theorem follow_rel {d : Kd} {vs : List Int} {N : Int} {F : Nat → BdV} {m : Nat} (hm : varsN d = some m) (hl : vs.length = m) (hB : Bits F) (h : followF d vs N F = (true, F)) : relF d vs N F = some F := by
  unfold followF at h
  cases hr : relF d vs N F with
  | none => rw [hr] at h; cases h
  | some G =>
    rw [hr] at h
    dsimp only at h
    have s1 := stp_rel hm hl hr
    have s2 := (norms_stp vs G (bits_rel hB hr) (by rw [h])).1
    rw [h] at s2
    rw [s1.anti s2]
end Go.Proofs.YthakhdbakmlooaaDoor
