/-
  Plain: what follows of wider bounds stays wider than a row where nothing follows.
-/
import Derived.Test.YthakhdbakmlooaaDoorKbM
import Derived.Test.YthakhdbakmlooaaDoorKbL
namespace Go.Proofs.YthakhdbakmlooaaDoor
set_option linter.unusedSimpArgs false
set_option linter.unusedVariables false
open Go Go.RowKit Go.Shelf Go.Ev

/-- bounds lie about other ones -/
def WB (b h : BdV) : Prop := (∀ t, b.lo.testBit t = true → h.lo.testBit t = true) ∧ (∀ t, h.hi.testBit t = true → b.hi.testBit t = true) ∧ b.mn ≤ h.mn ∧ h.mx ≤ b.mx
def WF (F H : Nat → BdV) : Prop := Bits F ∧ ∀ i, WB (F i) (H i)
section
variable {F H : Nat → BdV}
theorem WF.lo (h : WF F H) (i t : Nat) (k : (F i).lo.testBit t = true) : (H i).lo.testBit t = true := (h.2 i).1 t k
theorem WF.nh (h : WF F H) (i t : Nat) (k : (F i).hi.testBit t = false) : (H i).hi.testBit t = false := by
  cases e : (H i).hi.testBit t
  · rfl
  · rw [(h.2 i).2.1 t e] at k; cases k
theorem WF.nhi (h : WF F H) (i t : Nat) (k : (nt (F i).hi).testBit t = true) : (H i).hi.testBit t = false := h.nh i t (nt_bit (h.1 i).2 k)
theorem WF.sub (h : WF F H) (i j t : Nat) (k : (sub64 (F i).lo (F j).hi).testBit t = true) : (H i).lo.testBit t = true ∧ (H j).hi.testBit t = false := by
  rw [sub_bit (h.1 j).2] at k
  simp only [Bool.and_eq_true, Bool.not_eq_true'] at k
  exact ⟨h.lo i t k.1, h.nh j t k.2.2⟩
theorem WF.upd (h : WF F H) (x : Nat) (b : BdV) (h1 : b.lo < 18446744073709551616) (h2 : b.hi < 18446744073709551616) (hb : WB b (H x)) : WF (upd F x b) H :=
  ⟨h.1.upd x b h1 h2, fun i => by
    by_cases e : i = x
    · rw [e, upd_same]; exact hb
    · rw [upd_other _ _ e]; exact h.2 i⟩
theorem WF.into (h : WF F H) (x s : Nat) (hs : s < 18446744073709551616) (hb : ∀ t, s.testBit t = true → (H x).lo.testBit t = true) : WF (intoF F x s) H :=
  h.upd x _ (or_lt (h.1 x).1 hs) (h.1 x).2 ⟨fun t k => by
    rw [Nat.testBit_or, Bool.or_eq_true] at k
    rcases k with k | k
    · exact (h.2 x).1 t k
    · exact hb t k, (h.2 x).2⟩
theorem WF.out (hw : Bits H) (h : WF F H) (x s : Nat) (hs : s < 18446744073709551616) (hb : ∀ t, s.testBit t = true → (H x).hi.testBit t = false) : WF (outF F x s) H :=
  h.upd x _ (h.1 x).1 (sub64_lt (h.1 x).2) ⟨(h.2 x).1, fun t k => by
    rw [sub_bit hs, (h.2 x).2.1 t k]
    have ht : t < 64 := by
      by_cases e : t < 64
      · exact e
      · rw [big_bit (hw x).2 e] at k; cases k
    have hn : s.testBit t = false := by
      cases e : s.testBit t
      · rfl
      · rw [hb t e] at k; cases k
    simp [ht, hn], (h.2 x).2.2⟩
theorem WF.least (h : WF F H) (x : Nat) (k : Int) (hk : k ≤ (H x).mn) : WF (leastF F x k) H :=
  h.upd x _ (h.1 x).1 (h.1 x).2 ⟨(h.2 x).1, (h.2 x).2.1, Int.max_le.2 ⟨(h.2 x).2.2.1, hk⟩, (h.2 x).2.2.2⟩
theorem WF.most (h : WF F H) (x : Nat) (k : Int) (hk : (H x).mx ≤ k) : WF (mostF F x k) H :=
  h.upd x _ (h.1 x).1 (h.1 x).2 ⟨(h.2 x).1, (h.2 x).2.1, (h.2 x).2.2.1, Int.le_min.2 ⟨(h.2 x).2.2.2, hk⟩⟩
end
set_option hygiene false in
macro "bitdec6" : tactic => `(tactic| (
  generalize (H x).lo.testBit t = a
  generalize (H x).hi.testBit t = a'
  generalize (H y).lo.testBit t = b
  generalize (H y).hi.testBit t = b'
  generalize (H z).lo.testBit t = c
  generalize (H z).hi.testBit t = c'
  revert a a' b b' c c'
  decide))
/-- nothing more follows of 'part' -/
def cl_part (H : Nat → BdV) (x y z : Nat) : Prop := (∀ t, ((!(H x).lo.testBit t || (H y).lo.testBit t) && (!(H x).hi.testBit t || (H y).hi.testBit t)) = true) ∧ (H x).mx ≤ (H y).mx ∧ (H x).mn ≤ (H y).mn
set_option maxRecDepth 10000 in
theorem wf_part {F H : Nat → BdV} (hw : Bits H) (x y z : Nat) (K : cl_part H x y z) (h0 : WF F H) : WF (partF F x y) H := by
  obtain ⟨R, Z⟩ := K
  obtain ⟨F1, hF1⟩ : ∃ G, intoF F y ((F x).lo) = G := ⟨_, rfl⟩
  have h1 : WF F1 H := by
    rw [← hF1]
    refine WF.into h0 y _ ((h0.1 _).1) fun t ht => ?_
    have f := h0.lo x t ht
    have r := R t
    revert f r
    bitdec6
  obtain ⟨F2, hF2⟩ : ∃ G, outF F1 x (nt (F1 y).hi) = G := ⟨_, rfl⟩
  have h2 : WF F2 H := by
    rw [← hF2]
    refine WF.out hw h1 x _ (nt_lt _) fun t ht => ?_
    have f := h1.nhi y t ht
    have r := R t
    revert f r
    bitdec6
  obtain ⟨F3, hF3⟩ : ∃ G, mostF F2 x ((F2 y).mx) = G := ⟨_, rfl⟩
  have h3 : WF F3 H := by
    rw [← hF3]
    refine WF.most h2 x _ ?_
    have q1 := (h2.2 x).2.2
    have q2 := (h2.2 y).2.2
    have q3 := (h2.2 z).2.2
    omega
  obtain ⟨F4, hF4⟩ : ∃ G, leastF F3 y ((F3 x).mn) = G := ⟨_, rfl⟩
  have h4 : WF F4 H := by
    rw [← hF4]
    refine WF.least h3 y _ ?_
    have q1 := (h3.2 x).2.2
    have q2 := (h3.2 y).2.2
    have q3 := (h3.2 z).2.2
    omega
  have e : partF F x y = F4 := by unfold partF; simp only [hF1, hF2, hF3, hF4]
  rw [e]
  exact h4
/-- nothing more follows of 'apart' -/
def cl_apart (H : Nat → BdV) (x y z : Nat) : Prop := (∀ t, ((!(H y).lo.testBit t || !(H x).hi.testBit t) && (!(H x).lo.testBit t || !(H y).hi.testBit t)) = true) ∧ True
set_option maxRecDepth 10000 in
theorem wf_apart {F H : Nat → BdV} (hw : Bits H) (x y z : Nat) (K : cl_apart H x y z) (h0 : WF F H) : WF (apartF F x y) H := by
  obtain ⟨R, Z⟩ := K
  obtain ⟨F1, hF1⟩ : ∃ G, outF F x ((F y).lo) = G := ⟨_, rfl⟩
  have h1 : WF F1 H := by
    rw [← hF1]
    refine WF.out hw h0 x _ ((h0.1 _).1) fun t ht => ?_
    have f := h0.lo y t ht
    have r := R t
    revert f r
    bitdec6
  obtain ⟨F2, hF2⟩ : ∃ G, outF F1 y ((F1 x).lo) = G := ⟨_, rfl⟩
  have h2 : WF F2 H := by
    rw [← hF2]
    refine WF.out hw h1 y _ ((h1.1 _).1) fun t ht => ?_
    have f := h1.lo x t ht
    have r := R t
    revert f r
    bitdec6
  have e : apartF F x y = F2 := by unfold apartF; simp only [hF1, hF2]
  rw [e]
  exact h2
/-- nothing more follows of 'union' -/
def cl_union (H : Nat → BdV) (x y z : Nat) : Prop := (∀ t, ((!(H x).lo.testBit t || (H z).lo.testBit t) && (!(H y).lo.testBit t || (H z).lo.testBit t) && (!(H x).hi.testBit t || (H z).hi.testBit t) && (!(H y).hi.testBit t || (H z).hi.testBit t) && (!(H z).hi.testBit t || ((H x).hi.testBit t || (H y).hi.testBit t)) && (!((H z).lo.testBit t && !(H y).hi.testBit t) || (H x).lo.testBit t) && (!((H z).lo.testBit t && !(H x).hi.testBit t) || (H y).lo.testBit t)) = true) ∧ (H z).mx ≤ (H x).mx + (H y).mx ∧ (H x).mn ≤ (H z).mn ∧ (H y).mn ≤ (H z).mn
set_option maxRecDepth 10000 in
theorem wf_union {F H : Nat → BdV} (hw : Bits H) (x y z : Nat) (K : cl_union H x y z) (h0 : WF F H) : WF (unionF F x y z) H := by
  obtain ⟨R, Z⟩ := K
  obtain ⟨F1, hF1⟩ : ∃ G, intoF F z (((F x).lo ||| (F y).lo)) = G := ⟨_, rfl⟩
  have h1 : WF F1 H := by
    rw [← hF1]
    refine WF.into h0 z _ (or_lt ((h0.1 _).1) ((h0.1 _).1)) fun t ht => ?_
    rw [Nat.testBit_or, Bool.or_eq_true] at ht
    rcases ht with ht | ht
    · have f := h0.lo x t ht
      have r := R t
      revert f r
      bitdec6
    · have f := h0.lo y t ht
      have r := R t
      revert f r
      bitdec6
  obtain ⟨F2, hF2⟩ : ∃ G, outF F1 x (nt (F1 z).hi) = G := ⟨_, rfl⟩
  have h2 : WF F2 H := by
    rw [← hF2]
    refine WF.out hw h1 x _ (nt_lt _) fun t ht => ?_
    have f := h1.nhi z t ht
    have r := R t
    revert f r
    bitdec6
  obtain ⟨F3, hF3⟩ : ∃ G, outF F2 y (nt (F2 z).hi) = G := ⟨_, rfl⟩
  have h3 : WF F3 H := by
    rw [← hF3]
    refine WF.out hw h2 y _ (nt_lt _) fun t ht => ?_
    have f := h2.nhi z t ht
    have r := R t
    revert f r
    bitdec6
  obtain ⟨F4, hF4⟩ : ∃ G, outF F3 z ((nt (F3 x).hi &&& nt (F3 y).hi)) = G := ⟨_, rfl⟩
  have h4 : WF F4 H := by
    rw [← hF4]
    refine WF.out hw h3 z _ (Nat.lt_of_le_of_lt Nat.and_le_left (nt_lt _)) fun t ht => ?_
    rw [Nat.testBit_and, Bool.and_eq_true] at ht
    have f := h3.nhi x t ht.1
    have f2 := h3.nhi y t ht.2
    have r := R t
    revert f f2 r
    bitdec6
  obtain ⟨F5, hF5⟩ : ∃ G, intoF F4 x (sub64 (F4 z).lo (F4 y).hi) = G := ⟨_, rfl⟩
  have h5 : WF F5 H := by
    rw [← hF5]
    refine WF.into h4 x _ (sub64_lt (h4.1 _).1) fun t ht => ?_
    obtain ⟨f, f2⟩ := h4.sub z y t ht
    have r := R t
    revert f f2 r
    bitdec6
  obtain ⟨F6, hF6⟩ : ∃ G, intoF F5 y (sub64 (F5 z).lo (F5 x).hi) = G := ⟨_, rfl⟩
  have h6 : WF F6 H := by
    rw [← hF6]
    refine WF.into h5 y _ (sub64_lt (h5.1 _).1) fun t ht => ?_
    obtain ⟨f, f2⟩ := h5.sub z x t ht
    have r := R t
    revert f f2 r
    bitdec6
  obtain ⟨F7, hF7⟩ : ∃ G, mostF F6 z (((F6 x).mx + (F6 y).mx)) = G := ⟨_, rfl⟩
  have h7 : WF F7 H := by
    rw [← hF7]
    refine WF.most h6 z _ ?_
    have q1 := (h6.2 x).2.2
    have q2 := (h6.2 y).2.2
    have q3 := (h6.2 z).2.2
    omega
  obtain ⟨F8, hF8⟩ : ∃ G, leastF F7 z ((max (F7 x).mn (F7 y).mn)) = G := ⟨_, rfl⟩
  have h8 : WF F8 H := by
    rw [← hF8]
    refine WF.least h7 z _ ?_
    have q1 := (h7.2 x).2.2
    have q2 := (h7.2 y).2.2
    have q3 := (h7.2 z).2.2
    omega
  have e : unionF F x y z = F8 := by unfold unionF; simp only [hF1, hF2, hF3, hF4, hF5, hF6, hF7, hF8]
  rw [e]
  exact h8
/-- nothing more follows of 'meet' -/
def cl_meet (H : Nat → BdV) (x y z : Nat) : Prop := (∀ t, ((!((H x).lo.testBit t && (H y).lo.testBit t) || (H z).lo.testBit t) && (!(H z).lo.testBit t || (H x).lo.testBit t) && (!(H z).lo.testBit t || (H y).lo.testBit t) && (!(H z).hi.testBit t || (H x).hi.testBit t) && (!(H z).hi.testBit t || (H y).hi.testBit t) && (!((H y).lo.testBit t && !(H z).hi.testBit t) || !(H x).hi.testBit t) && (!((H x).lo.testBit t && !(H z).hi.testBit t) || !(H y).hi.testBit t)) = true) ∧ (H z).mx ≤ (H x).mx ∧ (H z).mx ≤ (H y).mx
set_option maxRecDepth 10000 in
theorem wf_meet {F H : Nat → BdV} (hw : Bits H) (x y z : Nat) (K : cl_meet H x y z) (h0 : WF F H) : WF (meetF F x y z) H := by
  obtain ⟨R, Z⟩ := K
  obtain ⟨F1, hF1⟩ : ∃ G, intoF F z (((F x).lo &&& (F y).lo)) = G := ⟨_, rfl⟩
  have h1 : WF F1 H := by
    rw [← hF1]
    refine WF.into h0 z _ (Nat.lt_of_le_of_lt Nat.and_le_left ((h0.1 _).1)) fun t ht => ?_
    rw [Nat.testBit_and, Bool.and_eq_true] at ht
    have f := h0.lo x t ht.1
    have f2 := h0.lo y t ht.2
    have r := R t
    revert f f2 r
    bitdec6
  obtain ⟨F2, hF2⟩ : ∃ G, intoF F1 x ((F1 z).lo) = G := ⟨_, rfl⟩
  have h2 : WF F2 H := by
    rw [← hF2]
    refine WF.into h1 x _ ((h1.1 _).1) fun t ht => ?_
    have f := h1.lo z t ht
    have r := R t
    revert f r
    bitdec6
  obtain ⟨F3, hF3⟩ : ∃ G, intoF F2 y ((F2 z).lo) = G := ⟨_, rfl⟩
  have h3 : WF F3 H := by
    rw [← hF3]
    refine WF.into h2 y _ ((h2.1 _).1) fun t ht => ?_
    have f := h2.lo z t ht
    have r := R t
    revert f r
    bitdec6
  obtain ⟨F4, hF4⟩ : ∃ G, outF F3 z ((nt (F3 x).hi ||| nt (F3 y).hi)) = G := ⟨_, rfl⟩
  have h4 : WF F4 H := by
    rw [← hF4]
    refine WF.out hw h3 z _ (or_lt (nt_lt _) (nt_lt _)) fun t ht => ?_
    rw [Nat.testBit_or, Bool.or_eq_true] at ht
    rcases ht with ht | ht
    · have f := h3.nhi x t ht
      have r := R t
      revert f r
      bitdec6
    · have f := h3.nhi y t ht
      have r := R t
      revert f r
      bitdec6
  obtain ⟨F5, hF5⟩ : ∃ G, outF F4 x (sub64 (F4 y).lo (F4 z).hi) = G := ⟨_, rfl⟩
  have h5 : WF F5 H := by
    rw [← hF5]
    refine WF.out hw h4 x _ (sub64_lt (h4.1 _).1) fun t ht => ?_
    obtain ⟨f, f2⟩ := h4.sub y z t ht
    have r := R t
    revert f f2 r
    bitdec6
  obtain ⟨F6, hF6⟩ : ∃ G, outF F5 y (sub64 (F5 x).lo (F5 z).hi) = G := ⟨_, rfl⟩
  have h6 : WF F6 H := by
    rw [← hF6]
    refine WF.out hw h5 y _ (sub64_lt (h5.1 _).1) fun t ht => ?_
    obtain ⟨f, f2⟩ := h5.sub x z t ht
    have r := R t
    revert f f2 r
    bitdec6
  obtain ⟨F7, hF7⟩ : ∃ G, mostF F6 z ((min (F6 x).mx (F6 y).mx)) = G := ⟨_, rfl⟩
  have h7 : WF F7 H := by
    rw [← hF7]
    refine WF.most h6 z _ ?_
    have q1 := (h6.2 x).2.2
    have q2 := (h6.2 y).2.2
    have q3 := (h6.2 z).2.2
    omega
  have e : meetF F x y z = F7 := by unfold meetF; simp only [hF1, hF2, hF3, hF4, hF5, hF6, hF7]
  rw [e]
  exact h7
/-- nothing more follows of 'minus' -/
def cl_minus (H : Nat → BdV) (x y z : Nat) : Prop := (∀ t, ((!((H x).lo.testBit t && !(H y).hi.testBit t) || (H z).lo.testBit t) && (!(H z).lo.testBit t || (H x).lo.testBit t) && (!(H z).lo.testBit t || !(H y).hi.testBit t) && (!(H z).hi.testBit t || (H x).hi.testBit t) && (!(H y).lo.testBit t || !(H z).hi.testBit t) && (!((H x).lo.testBit t && !(H z).hi.testBit t) || (H y).lo.testBit t)) = true) ∧ (H z).mx ≤ (H x).mx
set_option maxRecDepth 10000 in
theorem wf_minus {F H : Nat → BdV} (hw : Bits H) (x y z : Nat) (K : cl_minus H x y z) (h0 : WF F H) : WF (minusF F x y z) H := by
  obtain ⟨R, Z⟩ := K
  obtain ⟨F1, hF1⟩ : ∃ G, intoF F z (sub64 (F x).lo (F y).hi) = G := ⟨_, rfl⟩
  have h1 : WF F1 H := by
    rw [← hF1]
    refine WF.into h0 z _ (sub64_lt (h0.1 _).1) fun t ht => ?_
    obtain ⟨f, f2⟩ := h0.sub x y t ht
    have r := R t
    revert f f2 r
    bitdec6
  obtain ⟨F2, hF2⟩ : ∃ G, intoF F1 x ((F1 z).lo) = G := ⟨_, rfl⟩
  have h2 : WF F2 H := by
    rw [← hF2]
    refine WF.into h1 x _ ((h1.1 _).1) fun t ht => ?_
    have f := h1.lo z t ht
    have r := R t
    revert f r
    bitdec6
  obtain ⟨F3, hF3⟩ : ∃ G, outF F2 y ((F2 z).lo) = G := ⟨_, rfl⟩
  have h3 : WF F3 H := by
    rw [← hF3]
    refine WF.out hw h2 y _ ((h2.1 _).1) fun t ht => ?_
    have f := h2.lo z t ht
    have r := R t
    revert f r
    bitdec6
  obtain ⟨F4, hF4⟩ : ∃ G, outF F3 z ((nt (F3 x).hi ||| (F3 y).lo)) = G := ⟨_, rfl⟩
  have h4 : WF F4 H := by
    rw [← hF4]
    refine WF.out hw h3 z _ (or_lt (nt_lt _) ((h3.1 _).1)) fun t ht => ?_
    rw [Nat.testBit_or, Bool.or_eq_true] at ht
    rcases ht with ht | ht
    · have f := h3.nhi x t ht
      have r := R t
      revert f r
      bitdec6
    · have f := h3.lo y t ht
      have r := R t
      revert f r
      bitdec6
  obtain ⟨F5, hF5⟩ : ∃ G, intoF F4 y (sub64 (F4 x).lo (F4 z).hi) = G := ⟨_, rfl⟩
  have h5 : WF F5 H := by
    rw [← hF5]
    refine WF.into h4 y _ (sub64_lt (h4.1 _).1) fun t ht => ?_
    obtain ⟨f, f2⟩ := h4.sub x z t ht
    have r := R t
    revert f f2 r
    bitdec6
  obtain ⟨F6, hF6⟩ : ∃ G, mostF F5 z ((F5 x).mx) = G := ⟨_, rfl⟩
  have h6 : WF F6 H := by
    rw [← hF6]
    refine WF.most h5 z _ ?_
    have q1 := (h5.2 x).2.2
    have q2 := (h5.2 y).2.2
    have q3 := (h5.2 z).2.2
    omega
  have e : minusF F x y z = F6 := by unfold minusF; simp only [hF1, hF2, hF3, hF4, hF5, hF6]
  rw [e]
  exact h6
/-- nothing more follows of a relation -/
def relCl (d : Kd) (x y z : Nat) (N : Int) (H : Nat → BdV) : Prop := match d with
  | .part => cl_part H x y 0
  | .apart => cl_apart H x y 0
  | .union => cl_union H x y z
  | .meet => cl_meet H x y z
  | .minus => cl_minus H x y z
  | .has => inR N = true ∧ (H x).lo.testBit N.toNat = true
  | .lacks => inR N = true → (H x).hi.testBit N.toNat = false
  | .size => N ≤ (H x).mn ∧ (H x).mx ≤ N
  | .none => False
theorem wf_rel {d : Kd} {vs : List Int} {N : Int} {F H : Nat → BdV} (hw : Bits H) (h : WF F H) (R : relCl d (vs.getD 0 0).toNat (vs.getD 1 0).toNat (vs.getD 2 0).toNat N H) : ∃ G, relF d vs N F = some G ∧ WF G H := by
  unfold relF
  cases d <;> dsimp only [relCl] at R ⊢
  case part => exact ⟨_, rfl, wf_part hw _ _ 0 R h⟩
  case apart => exact ⟨_, rfl, wf_apart hw _ _ 0 R h⟩
  case union => exact ⟨_, rfl, wf_union hw _ _ _ R h⟩
  case meet => exact ⟨_, rfl, wf_meet hw _ _ _ R h⟩
  case minus => exact ⟨_, rfl, wf_minus hw _ _ _ R h⟩
  case has =>
    rw [if_pos R.1]
    refine ⟨_, rfl, h.into _ _ (Nat.pow_lt_pow_right (n := 64) (by decide) (inR_lt R.1)) fun t ht => ?_⟩
    rw [Nat.testBit_two_pow] at ht
    rw [← of_decide_eq_true ht]; exact R.2
  case lacks =>
    by_cases hN : inR N = true
    · rw [if_pos hN]
      refine ⟨_, rfl, WF.out hw h _ _ (Nat.pow_lt_pow_right (n := 64) (by decide) (inR_lt hN)) fun t ht => ?_⟩
      rw [Nat.testBit_two_pow] at ht
      rw [← of_decide_eq_true ht]; exact R hN
    · rw [if_neg hN]
      exact ⟨_, rfl, h⟩
  case size => exact ⟨_, rfl, (h.least _ _ R.1).most _ _ R.2⟩
/-- bounds in normal form -/
def Nml (h : BdV) : Prop := okB h = true ∧ normB h = h
theorem nml_facts {h : BdV} (k : Nml h) : sub64 h.lo h.hi = 0 ∧ (ones h.lo : Int) ≤ h.mn ∧ h.mx ≤ ones h.hi ∧ h.mn ≤ h.mx ∧ (h.mn = ones h.hi → h.lo = h.hi) ∧ (h.mx = ones h.lo → h.hi = h.lo) := by
  obtain ⟨k1, k2⟩ := k
  simp only [okB, okN, Bool.and_eq_true, decide_eq_true_eq] at k1
  have e1 : nmn h.lo h.mn = h.mn := congrArg BdV.mn k2
  have e2 : nmx h.hi h.mx = h.mx := congrArg BdV.mx k2
  have e3 : nlo h.lo h.hi h.mn = h.lo := congrArg BdV.lo k2
  have e4 : nhi h.lo h.hi h.mn h.mx = h.hi := congrArg BdV.hi k2
  have k3 := k1.2
  rw [e1, e2] at k3
  refine ⟨k1.1, ?_, ?_, k3, fun e => ?_, fun e => ?_⟩
  · unfold nmn at e1; omega
  · unfold nmx at e2; omega
  · unfold nlo at e3
    rw [if_pos (by rw [e1]; exact e)] at e3
    exact e3.symm
  · unfold nhi at e4
    unfold nlo at e3
    split at e4
    · next c => rw [if_pos c] at e3; exact e3
    · rw [if_pos (by rw [e2]; exact e)] at e4; exact e4.symm
theorem wb_norm {b h : BdV} (h1 : b.lo < 18446744073709551616) (h2 : b.hi < 18446744073709551616) (g1 : h.lo < 18446744073709551616) (g2 : h.hi < 18446744073709551616) (k : Nml h) (w : WB b h) : okB b = true ∧ WB (normB b) h := by
  obtain ⟨n1, n2, n3, n4, n5, n6⟩ := nml_facts k
  obtain ⟨w1, w2, w3, w4⟩ := w
  have s1 : sub64 b.lo h.lo = 0 := (sub_zero h1 g1).2 w1
  have s2 : sub64 h.hi b.hi = 0 := (sub_zero g2 h2).2 w2
  have o1 := ones_mono h1 g1 s1
  have o2 := ones_mono g2 h2 s2
  have o3 := ones_mono g1 g2 n1
  have hsub : sub64 b.lo b.hi = 0 := sub_trans h1 g1 h2 s1 (sub_trans g1 g2 h2 n1 s2)
  refine ⟨?_, ?_, ?_, ?_, ?_⟩
  · simp only [okB, okN, Bool.and_eq_true, decide_eq_true_eq]
    refine ⟨hsub, ?_⟩
    unfold nmn nmx
    omega
  · intro t ht
    simp only [normB, nlo] at ht
    split at ht
    · next c =>
      unfold nmn at c
      have e1 := ones_same g2 h2 s2 (by omega)
      have e2 := n5 (by omega)
      rw [e2, e1]; exact ht
    · exact w1 t ht
  · intro t ht
    simp only [normB, nhi]
    split
    · exact w2 t ht
    · split
      · next c =>
        unfold nmx at c
        have e1 := ones_same h1 g1 s1 (by omega)
        have e2 := n6 (by omega)
        rw [e2, ← e1] at ht; exact ht
      · exact w2 t ht
  · simp only [normB, nmn]; omega
  · simp only [normB, nmx]; omega
theorem wf_norms {H : Nat → BdV} (hw : Bits H) (hn : ∀ i, Nml (H i)) : ∀ (vs : List Int) (F : Nat → BdV), WF F H → (normsF F vs).1 = true ∧ WF (normsF F vs).2 H
  | [], _, h => ⟨rfl, h⟩
  | v :: vs, F, h => by
    have k := wb_norm (h.1 v.toNat).1 (h.1 v.toNat).2 (hw v.toNat).1 (hw v.toNat).2 (hn v.toNat) (h.2 v.toNat)
    rw [normsF_cons_ok k.1]
    exact wf_norms hw hn vs _ (h.upd _ _ (nlo_lt (h.1 _).1 (h.1 _).2) (nhi_lt (h.1 _).1 (h.1 _).2) k.2)
theorem wf_follow {d : Kd} {vs : List Int} {N : Int} {F H : Nat → BdV} (hw : Bits H) (hn : ∀ i, Nml (H i)) (h : WF F H) (R : relCl d (vs.getD 0 0).toNat (vs.getD 1 0).toNat (vs.getD 2 0).toNat N H) : (followF d vs N F).1 = true ∧ WF (followF d vs N F).2 H := by
  obtain ⟨G, hG, hs⟩ := wf_rel hw h R
  unfold followF
  rw [hG]
  exact wf_norms hw hn vs G hs
def RelV.closed (r : RelV) (H : Nat → BdV) : Prop := relCl r.d (r.vs.getD 0 0).toNat (r.vs.getD 1 0).toNat (r.vs.getD 2 0).toNat r.N H
theorem wf_pass {H : Nat → BdV} (hw : Bits H) (hn : ∀ i, Nml (H i)) : ∀ (rs : List RelV) (F : Nat → BdV), (∀ r ∈ rs, r.closed H) → WF F H → (passF rs F).1 = true ∧ WF (passF rs F).2 H
  | [], _, _, h => ⟨rfl, h⟩
  | r :: rs, F, hr, h => by
    have f := wf_follow hw hn h (hr r List.mem_cons_self)
    unfold passF
    rw [if_pos f.1]
    exact wf_pass hw hn rs _ (fun r' h' => hr r' (List.mem_cons_of_mem _ h')) f.2
/-- SETTLING STAYS ABOUT EVERY ROW WHERE NOTHING FOLLOWS -/
theorem wf_sett {rs : List RelV} {n : Nat} {F K H : Nat → BdV} {b : Bool} (hw : Bits H) (hn : ∀ i, Nml (H i)) (hr : ∀ r ∈ rs, r.closed H) (s : Sett rs n F b K) : WF F H → b = true ∧ WF K H := by
  induction s with
  | fail hf => intro h; have := (wf_pass hw hn rs _ hr h).1; rw [hf] at this; cases this
  | done _ _ => intro h; exact ⟨rfl, (wf_pass hw hn rs _ hr h).2⟩
  | next _ _ _ ih => intro h; exact ih (wf_pass hw hn rs _ hr h).2
end Go.Proofs.YthakhdbakmlooaaDoor

/-
  Plain: where nothing more follows, a row is closed; what settling ends with is the one greatest such row.
-/
namespace Go.Proofs.YthakhdbakmlooaaDoor
set_option linter.unusedSimpArgs false
set_option linter.unusedVariables false
open Go Go.RowKit Go.Shelf Go.Ev
set_option maxRecDepth 10000 in
theorem cl_same_part {S : List Nat} {F : Nat → BdV} {x y : Nat} (hx : x ∈ S) (hy : y ∈ S) (hB : Bits F) (h : partF F x y = F) : cl_part F x y 0 := by
  obtain ⟨F1, hF1⟩ : ∃ G, intoF F y ((F x).lo) = G := ⟨_, rfl⟩
  have s1 : Stp S F F1 := by rw [← hF1]; exact Stp.into hy _ _
  obtain ⟨F2, hF2⟩ : ∃ G, outF F1 x (nt (F1 y).hi) = G := ⟨_, rfl⟩
  have s2 : Stp S F1 F2 := by rw [← hF2]; exact Stp.out hx _ _
  obtain ⟨F3, hF3⟩ : ∃ G, mostF F2 x ((F2 y).mx) = G := ⟨_, rfl⟩
  have s3 : Stp S F2 F3 := by rw [← hF3]; exact Stp.most hx _ _
  obtain ⟨F4, hF4⟩ : ∃ G, leastF F3 y ((F3 x).mn) = G := ⟨_, rfl⟩
  have s4 : Stp S F3 F4 := by rw [← hF4]; exact Stp.least hy _ _
  have e : partF F x y = F4 := by unfold partF; simp only [hF1, hF2, hF3, hF4]
  have t4 : Stp S F4 F := by rw [← e, h]; exact Stp.refl _ _
  have t3 : Stp S F3 F := s4.trans t4
  have t2 : Stp S F2 F := s3.trans t3
  have t1 : Stp S F1 F := s2.trans t2
  have u1 : Stp S F F1 := s1
  have e1 : F1 = F := u1.anti t1
  rw [e1] at hF1
  have u2 : Stp S F F2 := u1.trans s2
  have e2 : F2 = F := u2.anti t2
  rw [e1, e2] at hF2
  have u3 : Stp S F F3 := u2.trans s3
  have e3 : F3 = F := u3.anti t3
  rw [e2, e3] at hF3
  have u4 : Stp S F F4 := u3.trans s4
  have e4 : F4 = F := u4.anti t4
  rw [e3, e4] at hF4
  refine ⟨fun t => ?_, ?_⟩
  · by_cases ht : t < 64
    · have a1 := into_same hF1 t
      have a2 := out_same (nt_lt _) hF2 t
      try simp only [Nat.testBit_or, Nat.testBit_and, nt_test (hB _).2, sub_bit (hB _).2, ht, decide_true, Bool.true_and] at a1 a2
      revert a1 a2
      generalize (F x).lo.testBit t = p0
      generalize (F x).hi.testBit t = q0
      generalize (F y).lo.testBit t = p1
      generalize (F y).hi.testBit t = q1
      revert p0 q0 p1 q1
      decide
    · simp only [big_bit (hB x).1 ht, big_bit (hB x).2 ht, big_bit (hB y).1 ht, big_bit (hB y).2 ht]; rfl
  · have m3 := most_same hF3
    have m4 := least_same hF4
    omega
set_option maxRecDepth 10000 in
theorem cl_same_apart {S : List Nat} {F : Nat → BdV} {x y : Nat} (hx : x ∈ S) (hy : y ∈ S) (hB : Bits F) (h : apartF F x y = F) : cl_apart F x y 0 := by
  obtain ⟨F1, hF1⟩ : ∃ G, outF F x ((F y).lo) = G := ⟨_, rfl⟩
  have s1 : Stp S F F1 := by rw [← hF1]; exact Stp.out hx _ _
  obtain ⟨F2, hF2⟩ : ∃ G, outF F1 y ((F1 x).lo) = G := ⟨_, rfl⟩
  have s2 : Stp S F1 F2 := by rw [← hF2]; exact Stp.out hy _ _
  have e : apartF F x y = F2 := by unfold apartF; simp only [hF1, hF2]
  have t2 : Stp S F2 F := by rw [← e, h]; exact Stp.refl _ _
  have t1 : Stp S F1 F := s2.trans t2
  have u1 : Stp S F F1 := s1
  have e1 : F1 = F := u1.anti t1
  rw [e1] at hF1
  have u2 : Stp S F F2 := u1.trans s2
  have e2 : F2 = F := u2.anti t2
  rw [e1, e2] at hF2
  refine ⟨fun t => ?_, ?_⟩
  · by_cases ht : t < 64
    · have a1 := out_same ((hB _).1) hF1 t
      have a2 := out_same ((hB _).1) hF2 t
      try simp only [Nat.testBit_or, Nat.testBit_and, nt_test (hB _).2, sub_bit (hB _).2, ht, decide_true, Bool.true_and] at a1 a2
      revert a1 a2
      generalize (F x).lo.testBit t = p0
      generalize (F x).hi.testBit t = q0
      generalize (F y).lo.testBit t = p1
      generalize (F y).hi.testBit t = q1
      revert p0 q0 p1 q1
      decide
    · simp only [big_bit (hB x).1 ht, big_bit (hB x).2 ht, big_bit (hB y).1 ht, big_bit (hB y).2 ht]; rfl
  · trivial
set_option maxRecDepth 10000 in
theorem cl_same_union {S : List Nat} {F : Nat → BdV} {x y z : Nat} (hx : x ∈ S) (hy : y ∈ S) (hz : z ∈ S) (hB : Bits F) (h : unionF F x y z = F) : cl_union F x y z := by
  obtain ⟨F1, hF1⟩ : ∃ G, intoF F z (((F x).lo ||| (F y).lo)) = G := ⟨_, rfl⟩
  have s1 : Stp S F F1 := by rw [← hF1]; exact Stp.into hz _ _
  obtain ⟨F2, hF2⟩ : ∃ G, outF F1 x (nt (F1 z).hi) = G := ⟨_, rfl⟩
  have s2 : Stp S F1 F2 := by rw [← hF2]; exact Stp.out hx _ _
  obtain ⟨F3, hF3⟩ : ∃ G, outF F2 y (nt (F2 z).hi) = G := ⟨_, rfl⟩
  have s3 : Stp S F2 F3 := by rw [← hF3]; exact Stp.out hy _ _
  obtain ⟨F4, hF4⟩ : ∃ G, outF F3 z ((nt (F3 x).hi &&& nt (F3 y).hi)) = G := ⟨_, rfl⟩
  have s4 : Stp S F3 F4 := by rw [← hF4]; exact Stp.out hz _ _
  obtain ⟨F5, hF5⟩ : ∃ G, intoF F4 x (sub64 (F4 z).lo (F4 y).hi) = G := ⟨_, rfl⟩
  have s5 : Stp S F4 F5 := by rw [← hF5]; exact Stp.into hx _ _
  obtain ⟨F6, hF6⟩ : ∃ G, intoF F5 y (sub64 (F5 z).lo (F5 x).hi) = G := ⟨_, rfl⟩
  have s6 : Stp S F5 F6 := by rw [← hF6]; exact Stp.into hy _ _
  obtain ⟨F7, hF7⟩ : ∃ G, mostF F6 z (((F6 x).mx + (F6 y).mx)) = G := ⟨_, rfl⟩
  have s7 : Stp S F6 F7 := by rw [← hF7]; exact Stp.most hz _ _
  obtain ⟨F8, hF8⟩ : ∃ G, leastF F7 z ((max (F7 x).mn (F7 y).mn)) = G := ⟨_, rfl⟩
  have s8 : Stp S F7 F8 := by rw [← hF8]; exact Stp.least hz _ _
  have e : unionF F x y z = F8 := by unfold unionF; simp only [hF1, hF2, hF3, hF4, hF5, hF6, hF7, hF8]
  have t8 : Stp S F8 F := by rw [← e, h]; exact Stp.refl _ _
  have t7 : Stp S F7 F := s8.trans t8
  have t6 : Stp S F6 F := s7.trans t7
  have t5 : Stp S F5 F := s6.trans t6
  have t4 : Stp S F4 F := s5.trans t5
  have t3 : Stp S F3 F := s4.trans t4
  have t2 : Stp S F2 F := s3.trans t3
  have t1 : Stp S F1 F := s2.trans t2
  have u1 : Stp S F F1 := s1
  have e1 : F1 = F := u1.anti t1
  rw [e1] at hF1
  have u2 : Stp S F F2 := u1.trans s2
  have e2 : F2 = F := u2.anti t2
  rw [e1, e2] at hF2
  have u3 : Stp S F F3 := u2.trans s3
  have e3 : F3 = F := u3.anti t3
  rw [e2, e3] at hF3
  have u4 : Stp S F F4 := u3.trans s4
  have e4 : F4 = F := u4.anti t4
  rw [e3, e4] at hF4
  have u5 : Stp S F F5 := u4.trans s5
  have e5 : F5 = F := u5.anti t5
  rw [e4, e5] at hF5
  have u6 : Stp S F F6 := u5.trans s6
  have e6 : F6 = F := u6.anti t6
  rw [e5, e6] at hF6
  have u7 : Stp S F F7 := u6.trans s7
  have e7 : F7 = F := u7.anti t7
  rw [e6, e7] at hF7
  have u8 : Stp S F F8 := u7.trans s8
  have e8 : F8 = F := u8.anti t8
  rw [e7, e8] at hF8
  refine ⟨fun t => ?_, ?_⟩
  · by_cases ht : t < 64
    · have a1 := into_same hF1 t
      have a2 := out_same (nt_lt _) hF2 t
      have a3 := out_same (nt_lt _) hF3 t
      have a4 := out_same (Nat.lt_of_le_of_lt Nat.and_le_left (nt_lt _)) hF4 t
      have a5 := into_same hF5 t
      have a6 := into_same hF6 t
      try simp only [Nat.testBit_or, Nat.testBit_and, nt_test (hB _).2, sub_bit (hB _).2, ht, decide_true, Bool.true_and] at a1 a2 a3 a4 a5 a6
      revert a1 a2 a3 a4 a5 a6
      generalize (F x).lo.testBit t = p0
      generalize (F x).hi.testBit t = q0
      generalize (F y).lo.testBit t = p1
      generalize (F y).hi.testBit t = q1
      generalize (F z).lo.testBit t = p2
      generalize (F z).hi.testBit t = q2
      revert p0 q0 p1 q1 p2 q2
      decide
    · simp only [big_bit (hB x).1 ht, big_bit (hB x).2 ht, big_bit (hB y).1 ht, big_bit (hB y).2 ht, big_bit (hB z).1 ht, big_bit (hB z).2 ht]; rfl
  · have m7 := most_same hF7
    have m8 := least_same hF8
    omega
set_option maxRecDepth 10000 in
theorem cl_same_meet {S : List Nat} {F : Nat → BdV} {x y z : Nat} (hx : x ∈ S) (hy : y ∈ S) (hz : z ∈ S) (hB : Bits F) (h : meetF F x y z = F) : cl_meet F x y z := by
  obtain ⟨F1, hF1⟩ : ∃ G, intoF F z (((F x).lo &&& (F y).lo)) = G := ⟨_, rfl⟩
  have s1 : Stp S F F1 := by rw [← hF1]; exact Stp.into hz _ _
  obtain ⟨F2, hF2⟩ : ∃ G, intoF F1 x ((F1 z).lo) = G := ⟨_, rfl⟩
  have s2 : Stp S F1 F2 := by rw [← hF2]; exact Stp.into hx _ _
  obtain ⟨F3, hF3⟩ : ∃ G, intoF F2 y ((F2 z).lo) = G := ⟨_, rfl⟩
  have s3 : Stp S F2 F3 := by rw [← hF3]; exact Stp.into hy _ _
  obtain ⟨F4, hF4⟩ : ∃ G, outF F3 z ((nt (F3 x).hi ||| nt (F3 y).hi)) = G := ⟨_, rfl⟩
  have s4 : Stp S F3 F4 := by rw [← hF4]; exact Stp.out hz _ _
  obtain ⟨F5, hF5⟩ : ∃ G, outF F4 x (sub64 (F4 y).lo (F4 z).hi) = G := ⟨_, rfl⟩
  have s5 : Stp S F4 F5 := by rw [← hF5]; exact Stp.out hx _ _
  obtain ⟨F6, hF6⟩ : ∃ G, outF F5 y (sub64 (F5 x).lo (F5 z).hi) = G := ⟨_, rfl⟩
  have s6 : Stp S F5 F6 := by rw [← hF6]; exact Stp.out hy _ _
  obtain ⟨F7, hF7⟩ : ∃ G, mostF F6 z ((min (F6 x).mx (F6 y).mx)) = G := ⟨_, rfl⟩
  have s7 : Stp S F6 F7 := by rw [← hF7]; exact Stp.most hz _ _
  have e : meetF F x y z = F7 := by unfold meetF; simp only [hF1, hF2, hF3, hF4, hF5, hF6, hF7]
  have t7 : Stp S F7 F := by rw [← e, h]; exact Stp.refl _ _
  have t6 : Stp S F6 F := s7.trans t7
  have t5 : Stp S F5 F := s6.trans t6
  have t4 : Stp S F4 F := s5.trans t5
  have t3 : Stp S F3 F := s4.trans t4
  have t2 : Stp S F2 F := s3.trans t3
  have t1 : Stp S F1 F := s2.trans t2
  have u1 : Stp S F F1 := s1
  have e1 : F1 = F := u1.anti t1
  rw [e1] at hF1
  have u2 : Stp S F F2 := u1.trans s2
  have e2 : F2 = F := u2.anti t2
  rw [e1, e2] at hF2
  have u3 : Stp S F F3 := u2.trans s3
  have e3 : F3 = F := u3.anti t3
  rw [e2, e3] at hF3
  have u4 : Stp S F F4 := u3.trans s4
  have e4 : F4 = F := u4.anti t4
  rw [e3, e4] at hF4
  have u5 : Stp S F F5 := u4.trans s5
  have e5 : F5 = F := u5.anti t5
  rw [e4, e5] at hF5
  have u6 : Stp S F F6 := u5.trans s6
  have e6 : F6 = F := u6.anti t6
  rw [e5, e6] at hF6
  have u7 : Stp S F F7 := u6.trans s7
  have e7 : F7 = F := u7.anti t7
  rw [e6, e7] at hF7
  refine ⟨fun t => ?_, ?_⟩
  · by_cases ht : t < 64
    · have a1 := into_same hF1 t
      have a2 := into_same hF2 t
      have a3 := into_same hF3 t
      have a4 := out_same (or_lt (nt_lt _) (nt_lt _)) hF4 t
      have a5 := out_same (sub64_lt (hB _).1) hF5 t
      have a6 := out_same (sub64_lt (hB _).1) hF6 t
      try simp only [Nat.testBit_or, Nat.testBit_and, nt_test (hB _).2, sub_bit (hB _).2, ht, decide_true, Bool.true_and] at a1 a2 a3 a4 a5 a6
      revert a1 a2 a3 a4 a5 a6
      generalize (F x).lo.testBit t = p0
      generalize (F x).hi.testBit t = q0
      generalize (F y).lo.testBit t = p1
      generalize (F y).hi.testBit t = q1
      generalize (F z).lo.testBit t = p2
      generalize (F z).hi.testBit t = q2
      revert p0 q0 p1 q1 p2 q2
      decide
    · simp only [big_bit (hB x).1 ht, big_bit (hB x).2 ht, big_bit (hB y).1 ht, big_bit (hB y).2 ht, big_bit (hB z).1 ht, big_bit (hB z).2 ht]; rfl
  · have m7 := most_same hF7
    omega
set_option maxRecDepth 10000 in
theorem cl_same_minus {S : List Nat} {F : Nat → BdV} {x y z : Nat} (hx : x ∈ S) (hy : y ∈ S) (hz : z ∈ S) (hB : Bits F) (h : minusF F x y z = F) : cl_minus F x y z := by
  obtain ⟨F1, hF1⟩ : ∃ G, intoF F z (sub64 (F x).lo (F y).hi) = G := ⟨_, rfl⟩
  have s1 : Stp S F F1 := by rw [← hF1]; exact Stp.into hz _ _
  obtain ⟨F2, hF2⟩ : ∃ G, intoF F1 x ((F1 z).lo) = G := ⟨_, rfl⟩
  have s2 : Stp S F1 F2 := by rw [← hF2]; exact Stp.into hx _ _
  obtain ⟨F3, hF3⟩ : ∃ G, outF F2 y ((F2 z).lo) = G := ⟨_, rfl⟩
  have s3 : Stp S F2 F3 := by rw [← hF3]; exact Stp.out hy _ _
  obtain ⟨F4, hF4⟩ : ∃ G, outF F3 z ((nt (F3 x).hi ||| (F3 y).lo)) = G := ⟨_, rfl⟩
  have s4 : Stp S F3 F4 := by rw [← hF4]; exact Stp.out hz _ _
  obtain ⟨F5, hF5⟩ : ∃ G, intoF F4 y (sub64 (F4 x).lo (F4 z).hi) = G := ⟨_, rfl⟩
  have s5 : Stp S F4 F5 := by rw [← hF5]; exact Stp.into hy _ _
  obtain ⟨F6, hF6⟩ : ∃ G, mostF F5 z ((F5 x).mx) = G := ⟨_, rfl⟩
  have s6 : Stp S F5 F6 := by rw [← hF6]; exact Stp.most hz _ _
  have e : minusF F x y z = F6 := by unfold minusF; simp only [hF1, hF2, hF3, hF4, hF5, hF6]
  have t6 : Stp S F6 F := by rw [← e, h]; exact Stp.refl _ _
  have t5 : Stp S F5 F := s6.trans t6
  have t4 : Stp S F4 F := s5.trans t5
  have t3 : Stp S F3 F := s4.trans t4
  have t2 : Stp S F2 F := s3.trans t3
  have t1 : Stp S F1 F := s2.trans t2
  have u1 : Stp S F F1 := s1
  have e1 : F1 = F := u1.anti t1
  rw [e1] at hF1
  have u2 : Stp S F F2 := u1.trans s2
  have e2 : F2 = F := u2.anti t2
  rw [e1, e2] at hF2
  have u3 : Stp S F F3 := u2.trans s3
  have e3 : F3 = F := u3.anti t3
  rw [e2, e3] at hF3
  have u4 : Stp S F F4 := u3.trans s4
  have e4 : F4 = F := u4.anti t4
  rw [e3, e4] at hF4
  have u5 : Stp S F F5 := u4.trans s5
  have e5 : F5 = F := u5.anti t5
  rw [e4, e5] at hF5
  have u6 : Stp S F F6 := u5.trans s6
  have e6 : F6 = F := u6.anti t6
  rw [e5, e6] at hF6
  refine ⟨fun t => ?_, ?_⟩
  · by_cases ht : t < 64
    · have a1 := into_same hF1 t
      have a2 := into_same hF2 t
      have a3 := out_same ((hB _).1) hF3 t
      have a4 := out_same (or_lt (nt_lt _) ((hB _).1)) hF4 t
      have a5 := into_same hF5 t
      try simp only [Nat.testBit_or, Nat.testBit_and, nt_test (hB _).2, sub_bit (hB _).2, ht, decide_true, Bool.true_and] at a1 a2 a3 a4 a5
      revert a1 a2 a3 a4 a5
      generalize (F x).lo.testBit t = p0
      generalize (F x).hi.testBit t = q0
      generalize (F y).lo.testBit t = p1
      generalize (F y).hi.testBit t = q1
      generalize (F z).lo.testBit t = p2
      generalize (F z).hi.testBit t = q2
      revert p0 q0 p1 q1 p2 q2
      decide
    · simp only [big_bit (hB x).1 ht, big_bit (hB x).2 ht, big_bit (hB y).1 ht, big_bit (hB y).2 ht, big_bit (hB z).1 ht, big_bit (hB z).2 ht]; rfl
  · have m6 := most_same hF6
    omega
theorem closed_rel {d : Kd} {vs : List Int} {N : Int} {F : Nat → BdV} {m : Nat} (hm : varsN d = some m) (hl : vs.length = m) (hB : Bits F) (h : relF d vs N F = some F) : relCl d (vs.getD 0 0).toNat (vs.getD 1 0).toNat (vs.getD 2 0).toNat N F := by
  unfold relF at h
  cases d <;> simp only [varsN, Option.some.injEq, reduceCtorEq] at hm <;> dsimp only [relCl] at h ⊢
  case part => simp only [Option.some.injEq] at h; exact cl_same_part (plc_getD (vs := vs) (j := 0) (by omega)) (plc_getD (vs := vs) (j := 1) (by omega)) hB h
  case apart => simp only [Option.some.injEq] at h; exact cl_same_apart (plc_getD (vs := vs) (j := 0) (by omega)) (plc_getD (vs := vs) (j := 1) (by omega)) hB h
  case union => simp only [Option.some.injEq] at h; exact cl_same_union (plc_getD (vs := vs) (j := 0) (by omega)) (plc_getD (vs := vs) (j := 1) (by omega)) (plc_getD (vs := vs) (j := 2) (by omega)) hB h
  case meet => simp only [Option.some.injEq] at h; exact cl_same_meet (plc_getD (vs := vs) (j := 0) (by omega)) (plc_getD (vs := vs) (j := 1) (by omega)) (plc_getD (vs := vs) (j := 2) (by omega)) hB h
  case minus => simp only [Option.some.injEq] at h; exact cl_same_minus (plc_getD (vs := vs) (j := 0) (by omega)) (plc_getD (vs := vs) (j := 1) (by omega)) (plc_getD (vs := vs) (j := 2) (by omega)) hB h
  case has =>
    split at h
    · next hN =>
      simp only [Option.some.injEq] at h
      exact ⟨hN, into_same h _ (by rw [Nat.testBit_two_pow]; simp)⟩
    · cases h
  case lacks =>
    intro hN
    rw [if_pos hN] at h
    simp only [Option.some.injEq] at h
    exact out_same (Nat.pow_lt_pow_right (n := 64) (by decide) (inR_lt hN)) h _ (by rw [Nat.testBit_two_pow]; simp)
  case size =>
    simp only [Option.some.injEq] at h
    have hp := plc_getD (vs := vs) (j := 0) (by omega)
    generalize (vs.getD 0 0).toNat = x at *
    obtain ⟨F1, hF1⟩ : ∃ G, leastF F x N = G := ⟨_, rfl⟩
    rw [hF1] at h
    have s1 : Stp (plc vs) F F1 := by rw [← hF1]; exact Stp.least hp _ _
    have s2 : Stp (plc vs) F1 F := by
      have := Stp.most hp F1 N
      rwa [h] at this
    have e1 : F1 = F := s1.anti s2
    rw [e1] at h hF1
    exact ⟨least_same hF1, most_same h⟩
/-- what settling ends well with is closed under all relations -/
theorem sett_closed {rs : List RelV} {n : Nat} {F H : Nat → BdV} (hr : ∀ r ∈ rs, relB r.d r.vs n = true) (hF : Fine F) (hH : Fine H) (s : Sett rs n F true H) : ∀ r ∈ rs, r.closed H := fun r h => by
  obtain ⟨m, hm, hl, _⟩ := relV_parts (hr r h)
  exact closed_rel hm hl hH.bits (follow_rel hm hl hH.bits (sett_end hr s hF rfl r h))
theorem WB.anti {a b : BdV} (h : WB a b) (k : WB b a) : a = b := by
  obtain ⟨h1, h2, h3, h4⟩ := h
  obtain ⟨k1, k2, k3, k4⟩ := k
  have e1 : a.lo = b.lo := Nat.eq_of_testBit_eq fun t => by
    rw [Bool.eq_iff_iff]; exact ⟨h1 t, k1 t⟩
  have e2 : a.hi = b.hi := Nat.eq_of_testBit_eq fun t => by
    rw [Bool.eq_iff_iff]; exact ⟨k2 t, h2 t⟩
  cases a; cases b
  simp only at e1 e2 h3 h4 k3 k4
  simp only [BdV.mk.injEq]
  exact ⟨e1, e2, by omega, by omega⟩
end Go.Proofs.YthakhdbakmlooaaDoor

/-
  Plain: the order of the relations changes nothing.
-/
namespace Go.Proofs.YthakhdbakmlooaaDoor
set_option linter.unusedSimpArgs false
set_option linter.unusedVariables false
open Go Go.RowKit Go.Shelf Go.Ev

theorem WB.refl (b : BdV) : WB b b := ⟨fun _ h => h, fun _ h => h, Int.le_refl _, Int.le_refl _⟩
theorem WB.trans {a b c : BdV} (h : WB a b) (k : WB b c) : WB a c := ⟨fun t x => k.1 t (h.1 t x), fun t x => h.2.1 t (k.2.1 t x), Int.le_trans h.2.2.1 k.2.2.1, Int.le_trans k.2.2.2 h.2.2.2⟩
/-- the second row lies within the first one -/
def WS (F G : Nat → BdV) : Prop := ∀ i, WB (F i) (G i)
theorem WS.refl (F : Nat → BdV) : WS F F := fun _ => WB.refl _
theorem WS.trans {F G K : Nat → BdV} (h : WS F G) (k : WS G K) : WS F K := fun i => (h i).trans (k i)
theorem WS.upd (F : Nat → BdV) (x : Nat) (b : BdV) (h : WB (F x) b) : WS F (upd F x b) := fun i => by
  by_cases e : i = x
  · rw [e, upd_same]; exact h
  · rw [upd_other _ _ e]; exact WB.refl _
theorem WS.into (F : Nat → BdV) (x s : Nat) : WS F (intoF F x s) := WS.upd F x _ ⟨fun t h => by rw [Nat.testBit_or, h, Bool.true_or], fun _ h => h, Int.le_refl _, Int.le_refl _⟩
theorem WS.out (F : Nat → BdV) (x s : Nat) : WS F (outF F x s) := WS.upd F x _ ⟨fun _ h => h, fun t h => by
  unfold sub64 at h
  rw [Nat.testBit_and, Bool.and_eq_true] at h
  exact h.1, Int.le_refl _, Int.le_refl _⟩
theorem WS.least (F : Nat → BdV) (x : Nat) (k : Int) : WS F (leastF F x k) := WS.upd F x _ ⟨fun _ h => h, fun _ h => h, Int.le_max_left _ _, Int.le_refl _⟩
theorem WS.most (F : Nat → BdV) (x : Nat) (k : Int) : WS F (mostF F x k) := WS.upd F x _ ⟨fun _ h => h, fun _ h => h, Int.le_refl _, Int.min_le_left _ _⟩
theorem ws_part (F : Nat → BdV) (x y : Nat) : WS F (partF F x y) := by
  unfold partF
  exact (WS.into _ _ _).trans ((WS.out _ _ _).trans ((WS.most _ _ _).trans (WS.least _ _ _)))
theorem ws_apart (F : Nat → BdV) (x y : Nat) : WS F (apartF F x y) := by
  unfold apartF
  exact (WS.out _ _ _).trans (WS.out _ _ _)
theorem ws_union (F : Nat → BdV) (x y z : Nat) : WS F (unionF F x y z) := by
  unfold unionF
  exact (WS.into _ _ _).trans ((WS.out _ _ _).trans ((WS.out _ _ _).trans ((WS.out _ _ _).trans ((WS.into _ _ _).trans ((WS.into _ _ _).trans ((WS.most _ _ _).trans (WS.least _ _ _)))))))
theorem ws_meet (F : Nat → BdV) (x y z : Nat) : WS F (meetF F x y z) := by
  unfold meetF
  exact (WS.into _ _ _).trans ((WS.into _ _ _).trans ((WS.into _ _ _).trans ((WS.out _ _ _).trans ((WS.out _ _ _).trans ((WS.out _ _ _).trans (WS.most _ _ _))))))
theorem ws_minus (F : Nat → BdV) (x y z : Nat) : WS F (minusF F x y z) := by
  unfold minusF
  exact (WS.into _ _ _).trans ((WS.into _ _ _).trans ((WS.out _ _ _).trans ((WS.out _ _ _).trans ((WS.into _ _ _).trans (WS.most _ _ _)))))
theorem ws_rel {d : Kd} {vs : List Int} {N : Int} {F G : Nat → BdV} (h : relF d vs N F = some G) : WS F G := by
  unfold relF at h
  cases d <;> dsimp only at h
  case part => cases h; exact ws_part F _ _
  case apart => cases h; exact ws_apart F _ _
  case union => cases h; exact ws_union F _ _ _
  case meet => cases h; exact ws_meet F _ _ _
  case minus => cases h; exact ws_minus F _ _ _
  case has =>
    split at h
    · cases h; exact WS.into F _ _
    · cases h
  case lacks =>
    split at h
    · cases h; exact WS.out F _ _
    · cases h; exact WS.refl _
  case size => cases h; exact (WS.least F _ _).trans (WS.most _ _ _)
  case none => cases h
theorem wb_self {b : BdV} (h1 : b.lo < 18446744073709551616) (h2 : b.hi < 18446744073709551616) (hk : okB b = true) : WB b (normB b) := by
  simp only [okB, okN, Bool.and_eq_true, decide_eq_true_eq] at hk
  have hs := (sub_zero h1 h2).1 hk.1
  refine ⟨fun t h => ?_, fun t h => ?_, ?_, ?_⟩
  · simp only [normB, nlo]
    split
    · exact hs t h
    · exact h
  · simp only [normB, nhi] at h
    split at h
    · exact h
    · split at h
      · exact hs t h
      · exact h
  · simp only [normB, nmn]; omega
  · simp only [normB, nmx]; omega
theorem ws_norms : ∀ (vs : List Int) (F : Nat → BdV), Bits F → (normsF F vs).1 = true → WS F (normsF F vs).2
  | [], F, _, _ => WS.refl _
  | v :: vs, F, hB, h => by
    cases hk : okB (F v.toNat) with
    | false => rw [normsF_cons_bad hk] at h; cases h
    | true =>
      rw [normsF_cons_ok hk] at h ⊢
      exact (WS.upd F _ _ (wb_self (hB _).1 (hB _).2 hk)).trans (ws_norms vs _ (bits_norm hB v.toNat) h)
theorem ws_follow {d : Kd} {vs : List Int} {N : Int} {F : Nat → BdV} (hB : Bits F) (h : (followF d vs N F).1 = true) : WS F (followF d vs N F).2 := by
  unfold followF at h ⊢
  cases hr : relF d vs N F with
  | none => rw [hr] at h; cases h
  | some G =>
    rw [hr] at h
    exact (ws_rel hr).trans (ws_norms vs G (bits_rel hB hr) h)
theorem ws_pass : ∀ (rs : List RelV) (F : Nat → BdV), (∀ r ∈ rs, ∃ m, varsN r.d = some m ∧ r.vs.length = m) → Fine F → (passF rs F).1 = true → WS F (passF rs F).2
  | [], F, _, _, _ => WS.refl _
  | r :: rs, F, hr, hf, h => by
    obtain ⟨m, hm, hl⟩ := hr r List.mem_cons_self
    unfold passF at h ⊢
    by_cases hk : (followF r.d r.vs r.N F).1 = true
    · rw [if_pos hk] at h ⊢
      exact (ws_follow hf.bits hk).trans (ws_pass rs _ (fun r' h' => hr r' (List.mem_cons_of_mem _ h')) (follow_stp hm hl hf hk).2 h)
    · rw [if_neg hk] at h; cases h
theorem ws_sett {rs : List RelV} {n : Nat} {F H : Nat → BdV} {b : Bool} (hr : ∀ r ∈ rs, ∃ m, varsN r.d = some m ∧ r.vs.length = m) (s : Sett rs n F b H) : Fine F → b = true → WS F H := by
  induction s with
  | fail _ => intro _ h; cases h
  | done h1 _ => intro hf _; exact ws_pass rs _ hr hf h1
  | next h1 _ _ ih => intro hf hb; exact (ws_pass rs _ hr hf h1).trans (ih (pass_stp rs _ hr hf h1).2 hb)
theorem nml_norm (b : BdV) (h1 : b.lo < 18446744073709551616) (h2 : b.hi < 18446744073709551616) (hk : okB b = true) : Nml (normB b) := by
  obtain ⟨a1, a2, a3, a4, a5⟩ := again h1 h2 (mn := b.mn) (mx := b.mx) hk
  refine ⟨a1, ?_⟩
  show BdV.mk (nlo (nlo b.lo b.hi b.mn) (nhi b.lo b.hi b.mn b.mx) (nmn b.lo b.mn)) (nhi (nlo b.lo b.hi b.mn) (nhi b.lo b.hi b.mn b.mx) (nmn b.lo b.mn) (nmx b.hi b.mx)) (nmn (nlo b.lo b.hi b.mn) (nmn b.lo b.mn)) (nmx (nhi b.lo b.hi b.mn b.mx) (nmx b.hi b.mx)) = BdV.mk (nlo b.lo b.hi b.mn) (nhi b.lo b.hi b.mn b.mx) (nmn b.lo b.mn) (nmx b.hi b.mx)
  rw [a2, a3, a4, a5]
/-- THE ORDER CHANGES NOTHING: relations with the same members settle alike -/
theorem sett_same {rs rs' : List RelV} {n : Nat} {F H H' : Nat → BdV} {b b' : Bool} (hm : ∀ r, r ∈ rs ↔ r ∈ rs') (hr : ∀ r ∈ rs, relB r.d r.vs n = true) (hF : Fine F) (hN : ∀ i, Nml (F i)) (s : Sett rs n F b H) (s' : Sett rs' n F b' H') : b = b' ∧ (b = true → H = H') := by
  have vr : ∀ {l : List RelV}, (∀ r ∈ l, relB r.d r.vs n = true) → ∀ r ∈ l, ∃ m, varsN r.d = some m ∧ r.vs.length = m := fun h r hr => by
    obtain ⟨m, hm, hl, _⟩ := relV_parts (h r hr)
    exact ⟨m, hm, hl⟩
  have hr' : ∀ r ∈ rs', relB r.d r.vs n = true := fun r h => hr r ((hm r).2 h)
  have half : ∀ {l l' : List RelV} {K K' : Nat → BdV} {c c' : Bool}, (∀ r, r ∈ l ↔ r ∈ l') → (∀ r ∈ l, relB r.d r.vs n = true) → Sett l n F c K → Sett l' n F c' K' → c = true → c' = true ∧ WF K' K := fun {l l' K K' c c'} hm hl s s' hc => by
    subst hc
    obtain ⟨p1, p2, p3⟩ := sett_P (P := Nml) nml_norm (vr hl) s hF hN rfl
    have hc := sett_closed hl hF p3 s
    exact wf_sett p3.bits p1 (fun r h => hc r ((hm r).2 h)) s' ⟨hF.bits, ws_sett (vr hl) s hF rfl⟩
  cases b with
  | true =>
    obtain ⟨rfl, w⟩ := half hm hr s s' rfl
    obtain ⟨_, w'⟩ := half (fun r => (hm r).symm) hr' s' s rfl
    exact ⟨rfl, fun _ => funext fun i => (w'.2 i).anti (w.2 i)⟩
  | false =>
    cases b' with
    | true => have := (half (fun r => (hm r).symm) hr' s' s rfl).1; cases this
    | false => exact ⟨rfl, fun h => by cases h⟩
end Go.Proofs.YthakhdbakmlooaaDoor

/-
  What the document keeps, plainly: it narrows, and keeps what is closed.
-/
namespace Go.Proofs.YthakhdbakmlooaaDoor
set_option linter.unusedVariables false
open Go Go.RowKit Go.Shelf Go.Ev

theorem into_hi (F : Nat → BdV) (a s b : Nat) : (intoF F a s b).hi = (F b).hi := by
  unfold intoF upd; split <;> simp_all
theorem into_mxe (F : Nat → BdV) (a s b : Nat) : (intoF F a s b).mx = (F b).mx := by
  unfold intoF upd; split <;> simp_all
theorem out_lo (F : Nat → BdV) (a s b : Nat) : (outF F a s b).lo = (F b).lo := by
  unfold outF upd; split <;> simp_all
theorem out_mxe (F : Nat → BdV) (a s b : Nat) : (outF F a s b).mx = (F b).mx := by
  unfold outF upd; split <;> simp_all
theorem into_comm (F : Nat → BdV) (x y s t : Nat) : intoF (intoF F x s) y t = intoF (intoF F y t) x s := by
  funext i
  unfold intoF upd
  by_cases h1 : i = x <;> by_cases h2 : i = y
  · subst h1; subst h2; simp [Nat.or_assoc, Nat.or_comm s t]
  · have h3 : ¬ y = x := fun e => h2 (h1.trans e.symm); have h4 : ¬ x = y := fun e => h3 e.symm; simp [h1, h3, h4]
  · have h3 : ¬ x = y := fun e => h1 (h2.trans e.symm); have h4 : ¬ y = x := fun e => h3 e.symm; simp [h2, h3, h4]
  · simp [h1, h2]
theorem out_comm (F : Nat → BdV) (x y s t : Nat) : outF (outF F x s) y t = outF (outF F y t) x s := by
  funext i
  unfold outF upd
  by_cases h1 : i = x <;> by_cases h2 : i = y
  · subst h1; subst h2; simp [sub64, Nat.and_assoc, Nat.and_comm (18446744073709551615 - s)]
  · have h3 : ¬ y = x := fun e => h2 (h1.trans e.symm); have h4 : ¬ x = y := fun e => h3 e.symm; simp [h1, h3, h4]
  · have h3 : ¬ x = y := fun e => h1 (h2.trans e.symm); have h4 : ¬ y = x := fun e => h3 e.symm; simp [h2, h3, h4]
  · simp [h1, h2]
theorem into_lo_self (F : Nat → BdV) (a z h : Nat) : (intoF F a (sub64 (F z).lo h) z).lo = (F z).lo := by
  unfold intoF
  by_cases e : z = a
  · subst e
    rw [upd_same]
    refine Nat.eq_of_testBit_eq fun t => ?_
    unfold sub64
    rw [Nat.testBit_or, Nat.testBit_and]
    cases (F z).lo.testBit t <;> simp
  · rw [upd_other _ _ e]
theorem out_hi_self (F : Nat → BdV) (hB : Bits F) (a z l : Nat) (hl : l < 18446744073709551616) : (outF F a (sub64 l (F z).hi) z).hi = (F z).hi := by
  unfold outF
  by_cases e : z = a
  · subst e
    rw [upd_same]
    refine Nat.eq_of_testBit_eq fun t => ?_
    dsimp only
    rw [sub_bit (sub64_lt hl), sub_bit (hB z).2]
    by_cases ht : t < 64
    · cases (F z).hi.testBit t <;> simp [ht]
    · rw [big_bit (hB z).2 ht]; simp
  · rw [upd_other _ _ e]
theorem dapart_eq (F : Nat → BdV) (x y : Nat) : dapartF F x y = apartF F x y := by
  unfold dapartF apartF
  dsimp only
  rw [out_lo, out_lo, out_comm]
theorem into_swap (F : Nat → BdV) (x y z : Nat) : intoF (intoF F y (sub64 (F z).lo (F x).hi)) x (sub64 (intoF F y (sub64 (F z).lo (F x).hi) z).lo (intoF F y (sub64 (F z).lo (F x).hi) y).hi) =
    intoF (intoF F x (sub64 (F z).lo (F y).hi)) y (sub64 (intoF F x (sub64 (F z).lo (F y).hi) z).lo (intoF F x (sub64 (F z).lo (F y).hi) x).hi) := by
  rw [into_lo_self, into_lo_self, into_hi, into_hi, into_comm]
theorem out_swap (F : Nat → BdV) (hB : Bits F) (x y z : Nat) : outF (outF F y (sub64 (F x).lo (F z).hi)) x (sub64 (outF F y (sub64 (F x).lo (F z).hi) y).lo (outF F y (sub64 (F x).lo (F z).hi) z).hi) =
    outF (outF F x (sub64 (F y).lo (F z).hi)) y (sub64 (outF F x (sub64 (F y).lo (F z).hi) x).lo (outF F x (sub64 (F y).lo (F z).hi) z).hi) := by
  rw [out_hi_self F hB y z _ (hB x).1, out_hi_self F hB x z _ (hB y).1, out_lo, out_lo, out_comm]
theorem wrap_id {n : Int} (h1 : 0 ≤ n) (h2 : n ≤ 128) : IntKind.i64.wrap n = n := by
  have h3 : n % 2 ^ 64 = n := Int.emod_eq_of_lt h1 (by omega)
  simp only [IntKind.wrap, IntKind.bits, IntKind.signed, h3]
  rw [if_neg]
  simp
  omega
theorem dunion_eq (F : Nat → BdV) (hM : ∀ i, 0 ≤ (F i).mx ∧ (F i).mx ≤ 64) (x y z : Nat) : dunionF F x y z = unionF F x y z := by
  obtain ⟨F1, hF1⟩ : ∃ G, intoF F z (((F x).lo ||| (F y).lo)) = G := ⟨_, rfl⟩
  obtain ⟨F2, hF2⟩ : ∃ G, outF F1 x (nt (F1 z).hi) = G := ⟨_, rfl⟩
  obtain ⟨F3, hF3⟩ : ∃ G, outF F2 y (nt (F2 z).hi) = G := ⟨_, rfl⟩
  obtain ⟨F4, hF4⟩ : ∃ G, outF F3 z ((nt (F3 x).hi &&& nt (F3 y).hi)) = G := ⟨_, rfl⟩
  obtain ⟨F6, hF6⟩ : ∃ G, intoF (intoF F4 y (sub64 (F4 z).lo (F4 x).hi)) x (sub64 (intoF F4 y (sub64 (F4 z).lo (F4 x).hi) z).lo (intoF F4 y (sub64 (F4 z).lo (F4 x).hi) y).hi) = G := ⟨_, rfl⟩
  have hm : ∀ i, (F6 i).mx = (F i).mx := fun i => by
    rw [← hF6, into_mxe, into_mxe, ← hF4, out_mxe, ← hF3, out_mxe, ← hF2, out_mxe, ← hF1, into_mxe]
  have e1 : dunionF F x y z = leastF (mostF F6 z (IntKind.i64.wrap ((F6 x).mx + (F6 y).mx))) z (max (mostF F6 z (IntKind.i64.wrap ((F6 x).mx + (F6 y).mx)) x).mn (mostF F6 z (IntKind.i64.wrap ((F6 x).mx + (F6 y).mx)) y).mn) := by
    unfold dunionF; simp only [hF1, hF2, hF3, hF4, hF6]
  have e2 : unionF F x y z = leastF (mostF F6 z ((F6 x).mx + (F6 y).mx)) z (max (mostF F6 z ((F6 x).mx + (F6 y).mx) x).mn (mostF F6 z ((F6 x).mx + (F6 y).mx) y).mn) := by
    rw [into_swap] at hF6
    unfold unionF; simp only [hF1, hF2, hF3, hF4, hF6]
  rw [e1, e2, wrap_id]
  · rw [hm, hm]; have := hM x; have := hM y; omega
  · rw [hm, hm]; have := hM x; have := hM y; omega
theorem dmeet_eq (F : Nat → BdV) (hB : Bits F) (x y z : Nat) : dmeetF F x y z = meetF F x y z := by
  obtain ⟨F1, hF1⟩ : ∃ G, intoF F z (((F x).lo &&& (F y).lo)) = G := ⟨_, rfl⟩
  have b1 : Bits F1 := by rw [← hF1]; exact hB.into z _ (Nat.lt_of_le_of_lt Nat.and_le_left (hB x).1)
  obtain ⟨F2, hF2⟩ : ∃ G, intoF F1 x ((F1 z).lo) = G := ⟨_, rfl⟩
  have b2 : Bits F2 := by rw [← hF2]; exact b1.into x _ (b1 z).1
  obtain ⟨F3, hF3⟩ : ∃ G, intoF F2 y ((F2 z).lo) = G := ⟨_, rfl⟩
  have b3 : Bits F3 := by rw [← hF3]; exact b2.into y _ (b2 z).1
  obtain ⟨F4, hF4⟩ : ∃ G, outF F3 z ((nt (F3 x).hi ||| nt (F3 y).hi)) = G := ⟨_, rfl⟩
  have b4 : Bits F4 := by rw [← hF4]; exact b3.out z _
  obtain ⟨F6, hF6⟩ : ∃ G, outF (outF F4 y (sub64 (F4 x).lo (F4 z).hi)) x (sub64 (outF F4 y (sub64 (F4 x).lo (F4 z).hi) y).lo (outF F4 y (sub64 (F4 x).lo (F4 z).hi) z).hi) = G := ⟨_, rfl⟩
  have e1 : dmeetF F x y z = mostF F6 z (min (F6 x).mx (F6 y).mx) := by
    unfold dmeetF; simp only [hF1, hF2, hF3, hF4, hF6]
  have e2 : meetF F x y z = mostF F6 z (min (F6 x).mx (F6 y).mx) := by
    rw [out_swap F4 b4] at hF6
    unfold meetF; simp only [hF1, hF2, hF3, hF4, hF6]
  rw [e1, e2]
theorem kF_rel {d : Kd} {vs : List Int} {N : Int} {F : Nat → BdV} (hB : Bits F) (hM : ∀ i, 0 ≤ (F i).mx ∧ (F i).mx ≤ 64) (hd : d ≠ .none) (hN : d = .has → inR N = true) : relF d vs N F = some (kF d vs N F) := by
  unfold relF kF
  cases d <;> dsimp only
  case apart => rw [dapart_eq]
  case union => rw [dunion_eq F hM]
  case meet => rw [dmeet_eq F hB]
  case has => rw [if_pos (hN rfl), if_pos (hN rfl)]
  case lacks => split <;> rfl
  case none => exact absurd rfl hd
theorem ws_kF (d : Kd) (vs : List Int) (N : Int) (F : Nat → BdV) (hB : Bits F) : WS F (kF d vs N F) := by
  unfold kF
  cases d <;> dsimp only
  case part => exact ws_part F _ _
  case apart => rw [dapart_eq]; exact ws_apart F _ _
  case union => unfold dunionF; exact (WS.into _ _ _).trans ((WS.out _ _ _).trans ((WS.out _ _ _).trans ((WS.out _ _ _).trans ((WS.into _ _ _).trans ((WS.into _ _ _).trans ((WS.most _ _ _).trans (WS.least _ _ _)))))))
  case meet => rw [dmeet_eq F hB]; exact ws_meet F _ _ _
  case minus => exact ws_minus F _ _ _
  case has =>
    split
    · exact WS.into F _ _
    · exact WS.refl _
  case lacks =>
    split
    · exact WS.out F _ _
    · exact WS.refl _
  case size => exact (WS.least F _ _).trans (WS.most _ _ _)
  case none => exact WS.refl _
theorem bits_kF (d : Kd) (vs : List Int) (N : Int) (F : Nat → BdV) (hB : Bits F) : Bits (kF d vs N F) := by
  unfold kF
  cases d <;> dsimp only
  case part => exact bits_part hB _ _
  case apart => rw [dapart_eq]; exact bits_apart hB _ _
  case union =>
    unfold dunionF
    dsimp only
    generalize (vs.getD 0 0).toNat = x
    generalize (vs.getD 1 0).toNat = y
    generalize (vs.getD 2 0).toNat = z
    have b1 := hB.into z ((F x).lo ||| (F y).lo) (or_lt (hB _).1 (hB _).1)
    generalize intoF F z ((F x).lo ||| (F y).lo) = F1 at *
    have b2 := b1.out x (nt (F1 z).hi)
    generalize outF F1 x (nt (F1 z).hi) = F2 at *
    have b3 := b2.out y (nt (F2 z).hi)
    generalize outF F2 y (nt (F2 z).hi) = F3 at *
    have b4 := b3.out z (nt (F3 x).hi &&& nt (F3 y).hi)
    generalize outF F3 z (nt (F3 x).hi &&& nt (F3 y).hi) = F4 at *
    have b5 := b4.into y (sub64 (F4 z).lo (F4 x).hi) (sub64_lt (b4 z).1)
    generalize intoF F4 y (sub64 (F4 z).lo (F4 x).hi) = F5 at *
    have b6 := b5.into x (sub64 (F5 z).lo (F5 y).hi) (sub64_lt (b5 z).1)
    exact (b6.most _ _).least _ _
  case meet => rw [dmeet_eq F hB]; exact bits_meet hB _ _ _
  case minus => exact bits_minus hB _ _ _
  case has =>
    split
    · next h => exact hB.into _ _ (Nat.pow_lt_pow_right (n := 64) (by decide) (inR_lt h))
    · exact hB
  case lacks =>
    split
    · exact hB.out _ _
    · exact hB
  case size => exact (hB.least _ _).most _ _
  case none => exact hB
end Go.Proofs.YthakhdbakmlooaaDoor

/-
  What the document settles with, plainly.
-/
namespace Go.Proofs.YthakhdbakmlooaaDoor
set_option linter.unusedVariables false
open Go Go.RowKit Go.Shelf Go.Ev

def keepsF (rs : List RelV) (F : Nat → BdV) : Nat → BdV := rs.foldl (fun F r => kF r.d r.vs r.N F) F
def keepsG (rs : List RelV) (G : Nat → Bool) : Nat → Bool := rs.foldl (fun G r => kG r.d r.vs r.N G) G
theorem keepsF_succ (rs : List RelV) (F : Nat → BdV) (k : Nat) (h : k < rs.length) : keepsF (rs.take (k + 1)) F = kF rs[k].d rs[k].vs rs[k].N (keepsF (rs.take k) F) := by
  unfold keepsF
  rw [List.take_succ_eq_append_getElem h, List.foldl_append]
  rfl
theorem keepsG_succ (rs : List RelV) (G : Nat → Bool) (k : Nat) (h : k < rs.length) : keepsG (rs.take (k + 1)) G = kG rs[k].d rs[k].vs rs[k].N (keepsG (rs.take k) G) := by
  unfold keepsG
  rw [List.take_succ_eq_append_getElem h, List.foldl_append]
  rfl
theorem keeps_bits : ∀ (rs : List RelV) (F : Nat → BdV), Bits F → Bits (keepsF rs F)
  | [], F, h => h
  | r :: rs, F, h => keeps_bits rs _ (bits_kF r.d r.vs r.N F h)
theorem keeps_ws : ∀ (rs : List RelV) (F : Nat → BdV), Bits F → WS F (keepsF rs F)
  | [], F, h => WS.refl _
  | r :: rs, F, h => (ws_kF r.d r.vs r.N F h).trans (keeps_ws rs _ (bits_kF r.d r.vs r.N F h))
/-- a closed normal row -/
def Cls (rs : List RelV) (H : Nat → BdV) : Prop := Bits H ∧ (∀ i, Nml (H i)) ∧ (∀ i, 0 ≤ (H i).mx) ∧ ∀ r ∈ rs, r.closed H
theorem kG_closed {r : RelV} {H : Nat → BdV} (h : r.closed H) (G : Nat → Bool) : kG r.d r.vs r.N G = G := by
  unfold RelV.closed relCl at h
  unfold kG
  cases hd : r.d <;> rw [hd] at h <;> dsimp only at h ⊢
  rw [h.1, Bool.not_true, Bool.or_false, updG_self]
theorem kF_wf {r : RelV} {F H : Nat → BdV} (hw : Bits H) (h0 : ∀ i, 0 ≤ (H i).mx) (hc : r.closed H) (h : WF F H) (hM : ∀ i, (F i).mx ≤ 64) : WF (kF r.d r.vs r.N F) H := by
  obtain ⟨G, hG, hs⟩ := wf_rel hw h hc
  have hm : ∀ i, 0 ≤ (F i).mx ∧ (F i).mx ≤ 64 := fun i => ⟨Int.le_trans (h0 i) (h.2 i).2.2.2, hM i⟩
  have hd : r.d ≠ .none := fun e => by
    unfold RelV.closed relCl at hc
    rw [e] at hc
    exact hc
  have hn : r.d = .has → inR r.N = true := fun e => by
    unfold RelV.closed relCl at hc
    rw [e] at hc
    exact hc.1
  rw [kF_rel h.1 hm hd hn] at hG
  cases hG
  exact hs
theorem keeps_wf {H : Nat → BdV} (hw : Bits H) (h0 : ∀ i, 0 ≤ (H i).mx) : ∀ (rs : List RelV) (F : Nat → BdV), (∀ r ∈ rs, r.closed H) → WF F H → (∀ i, (F i).mx ≤ 64) → WF (keepsF rs F) H
  | [], F, _, h, _ => h
  | r :: rs, F, hc, h, hM => keeps_wf hw h0 rs _ (fun r' h' => hc r' (List.mem_cons_of_mem _ h')) (kF_wf hw h0 (hc r List.mem_cons_self) h hM) fun i => Int.le_trans (ws_kF r.d r.vs r.N F h.1 i).2.2.2 (hM i)
theorem keepsG_closed {H : Nat → BdV} : ∀ (rs : List RelV) (G : Nat → Bool), (∀ r ∈ rs, r.closed H) → keepsG rs G = G
  | [], G, _ => rfl
  | r :: rs, G, hc => by
    show keepsG rs (kG r.d r.vs r.N G) = G
    rw [kG_closed (hc r List.mem_cons_self)]
    exact keepsG_closed rs G fun r' h' => hc r' (List.mem_cons_of_mem _ h')
theorem kG_mono (d : Kd) (vs : List Int) (N : Int) (G : Nat → Bool) (i : Nat) (h : G i = true) : kG d vs N G i = true := by
  unfold kG
  cases d <;> dsimp only <;> try exact h
  unfold updG
  split
  · next e => rw [← e, h]; rfl
  · exact h
theorem keepsG_mono : ∀ (rs : List RelV) (G : Nat → Bool) (i : Nat), G i = true → keepsG rs G i = true
  | [], G, i, h => h
  | r :: rs, G, i, h => keepsG_mono rs _ i (kG_mono r.d r.vs r.N G i h)
/-- the first k in normal form -/
def normU (k : Nat) (K : Nat → BdV) : Nat → BdV := fun i => if i < k then normB (K i) else K i
theorem normU_zero (K : Nat → BdV) : normU 0 K = K := by funext i; unfold normU; rw [if_neg (Nat.not_lt_zero i)]
theorem normU_at (k : Nat) (K : Nat → BdV) : normU k K k = K k := if_neg (Nat.lt_irrefl k)
theorem normU_succ (k : Nat) (K : Nat → BdV) : upd (normU k K) k (normB (K k)) = normU (k + 1) K := by
  funext i
  unfold normU upd
  dsimp only
  by_cases e : i = k
  · rw [if_pos e, if_pos (by omega), e]
  · rw [if_neg e]
    by_cases e2 : i < k
    · rw [if_pos e2, if_pos (by omega)]
    · rw [if_neg e2, if_neg (by omega)]
/-- places beyond the row stay -/
theorem kF_far {d : Kd} {vs : List Int} {N : Int} {n m : Nat} (hm : varsN d = some m) (hl : vs.length = m) (hin : ∀ x ∈ vs, 0 ≤ x ∧ x < (n : Int)) (F : Nat → BdV) (i : Nat) (hi : n ≤ i) : kF d vs N F i = F i := by
  have at' : ∀ j, j < m → (vs.getD j 0).toNat ≠ i := fun j hj => by
    have e : vs.getD j 0 = vs[j] := by simp [List.getD_eq_getElem?_getD, List.getElem?_eq_getElem (show j < vs.length by omega)]
    have := hin _ (List.getElem_mem (show j < vs.length by omega))
    rw [e]; omega
  have o1 : ∀ (F : Nat → BdV) (x s : Nat), x ≠ i → intoF F x s i = F i := fun F x s h => upd_other _ _ (fun e => h e.symm)
  have o2 : ∀ (F : Nat → BdV) (x s : Nat), x ≠ i → outF F x s i = F i := fun F x s h => upd_other _ _ (fun e => h e.symm)
  have o3 : ∀ (F : Nat → BdV) (x : Nat) (s : Int), x ≠ i → mostF F x s i = F i := fun F x s h => upd_other _ _ (fun e => h e.symm)
  have o4 : ∀ (F : Nat → BdV) (x : Nat) (s : Int), x ≠ i → leastF F x s i = F i := fun F x s h => upd_other _ _ (fun e => h e.symm)
  unfold kF
  cases d <;> simp only [varsN, Option.some.injEq, reduceCtorEq] at hm <;> dsimp only
  case part => unfold partF; rw [o4 _ _ _ (at' 1 (by omega)), o3 _ _ _ (at' 0 (by omega)), o2 _ _ _ (at' 0 (by omega)), o1 _ _ _ (at' 1 (by omega))]
  case apart => unfold dapartF; rw [o2 _ _ _ (at' 0 (by omega)), o2 _ _ _ (at' 1 (by omega))]
  case union => unfold dunionF; rw [o4 _ _ _ (at' 2 (by omega)), o3 _ _ _ (at' 2 (by omega)), o1 _ _ _ (at' 0 (by omega)), o1 _ _ _ (at' 1 (by omega)), o2 _ _ _ (at' 2 (by omega)), o2 _ _ _ (at' 1 (by omega)), o2 _ _ _ (at' 0 (by omega)), o1 _ _ _ (at' 2 (by omega))]
  case meet => unfold dmeetF; rw [o3 _ _ _ (at' 2 (by omega)), o2 _ _ _ (at' 0 (by omega)), o2 _ _ _ (at' 1 (by omega)), o2 _ _ _ (at' 2 (by omega)), o1 _ _ _ (at' 1 (by omega)), o1 _ _ _ (at' 0 (by omega)), o1 _ _ _ (at' 2 (by omega))]
  case minus => unfold minusF; rw [o3 _ _ _ (at' 2 (by omega)), o1 _ _ _ (at' 1 (by omega)), o2 _ _ _ (at' 2 (by omega)), o2 _ _ _ (at' 1 (by omega)), o1 _ _ _ (at' 0 (by omega)), o1 _ _ _ (at' 2 (by omega))]
  case has =>
    split
    · exact o1 _ _ _ (at' 0 (by omega))
    · rfl
  case lacks =>
    split
    · exact o2 _ _ _ (at' 0 (by omega))
    · rfl
  case size => rw [o3 _ _ _ (at' 0 (by omega)), o4 _ _ _ (at' 0 (by omega))]
theorem keeps_far {n : Nat} : ∀ (rs : List RelV) (F : Nat → BdV), (∀ r ∈ rs, relB r.d r.vs n = true) → ∀ i, n ≤ i → keepsF rs F i = F i
  | [], F, _, _, _ => rfl
  | r :: rs, F, hr, i, hi => by
    obtain ⟨m, hm, hl, hin, _⟩ := relV_parts (hr r List.mem_cons_self)
    show keepsF rs (kF r.d r.vs r.N F) i = F i
    rw [keeps_far rs _ (fun r' h' => hr r' (List.mem_cons_of_mem _ h')) i hi]
    exact kF_far hm hl hin F i hi
/-- where the document's rounds stand -/
def DS (rs : List RelV) (F0 F : Nat → BdV) : Prop := WS F0 F ∧ (∀ i, Nml (F i)) ∧ Fine F ∧ ∀ H, Cls rs H → WF F0 H → WF F H
theorem DS.start {rs : List RelV} {F0 : Nat → BdV} (h1 : ∀ i, Nml (F0 i)) (h2 : Fine F0) : DS rs F0 F0 := ⟨WS.refl _, h1, h2, fun _ _ h => h⟩
theorem DS.keeps {rs : List RelV} {F0 F : Nat → BdV} (h : DS rs F0 F) {H : Nat → BdV} (hc : Cls rs H) (hw : WF F0 H) : WF (keepsF rs F) H :=
  keeps_wf hc.1 hc.2.2.1 rs F hc.2.2.2 (h.2.2.2 H hc hw) fun i => (h.2.2.1.most i).2
theorem DS.next {rs : List RelV} {F0 F : Nat → BdV} {n : Nat} (h : DS rs F0 F) (hr : ∀ r ∈ rs, relB r.d r.vs n = true) (hok : ∀ i, i < n → okB (keepsF rs F i) = true) : DS rs F0 (normU n (keepsF rs F)) ∧ WS F (normU n (keepsF rs F)) := by
  have hB := keeps_bits rs F h.2.2.1.bits
  have w1 := keeps_ws rs F h.2.2.1.bits
  have far := keeps_far rs F hr
  have w2 : WS (keepsF rs F) (normU n (keepsF rs F)) := fun i => by
    unfold normU
    by_cases e : i < n
    · rw [if_pos e]; exact wb_self (hB i).1 (hB i).2 (hok i e)
    · rw [if_neg e]; exact WB.refl _
  refine ⟨⟨h.1.trans (w1.trans w2), fun i => ?_, fun i => ?_, fun H hc hw => ?_⟩, w1.trans w2⟩
  · unfold normU
    by_cases e : i < n
    · rw [if_pos e]; exact nml_norm _ (hB i).1 (hB i).2 (hok i e)
    · rw [if_neg e, far i (by omega)]; exact h.2.1 i
  · unfold normU
    by_cases e : i < n
    · rw [if_pos e]; exact (fine_norm (hB i).1 (hB i).2 (hok i e)).1
    · rw [if_neg e, far i (by omega)]; exact h.2.2.1 i
  · have k := h.keeps hc hw
    refine ⟨fun i => ?_, fun i => ?_⟩
    · unfold normU
      by_cases e : i < n
      · rw [if_pos e]; exact ⟨nlo_lt (hB i).1 (hB i).2, nhi_lt (hB i).1 (hB i).2⟩
      · rw [if_neg e]; exact hB i
    · unfold normU
      by_cases e : i < n
      · rw [if_pos e]; exact (wb_norm (hB i).1 (hB i).2 (hc.1 i).1 (hc.1 i).2 (hc.2.1 i) (k.2 i)).2
      · rw [if_neg e]; exact k.2 i
theorem DS.lost {rs : List RelV} {F0 F : Nat → BdV} (h : DS rs F0 F) {i : Nat} (hb : okB (keepsF rs F i) = false ∨ keepsG rs (fun _ => false) i = true) : ∀ H, Cls rs H → ¬ WF F0 H := fun H hc hw => by
  have k := h.keeps hc hw
  have hB := keeps_bits rs F h.2.2.1.bits
  rcases hb with hb | hb
  · rw [(wb_norm (hB i).1 (hB i).2 (hc.1 i).1 (hc.1 i).2 (hc.2.1 i) (k.2 i)).1] at hb; cases hb
  · rw [keepsG_closed rs _ hc.2.2.2] at hb; cases hb
theorem WS.anti {F G : Nat → BdV} (h : WS F G) (k : WS G F) : G = F := funext fun i => (k i).anti (h i)
theorem keeps_same : ∀ (rs : List RelV) (F : Nat → BdV), Bits F → WS (keepsF rs F) F → ∀ r ∈ rs, kF r.d r.vs r.N F = F
  | [], F, _, _, r, hr => by cases hr
  | r :: rs, F, hB, h, r', hr' => by
    have hB1 := bits_kF r.d r.vs r.N F hB
    have w1 := ws_kF r.d r.vs r.N F hB
    have w2 := keeps_ws rs _ hB1
    have e : kF r.d r.vs r.N F = F := w1.anti (w2.trans h)
    rcases List.mem_cons.1 hr' with rfl | hr'
    · exact e
    · refine keeps_same rs F hB ?_ r' hr'
      have h2 : WS (keepsF rs (kF r.d r.vs r.N F)) F := h
      rwa [e] at h2
theorem hasG : ∀ (rs : List RelV) (G : Nat → Bool) (n : Nat), (∀ r ∈ rs, relB r.d r.vs n = true) → (∀ i, i < n → keepsG rs G i = false) → ∀ r ∈ rs, r.d = .has → inR r.N = true
  | [], _, _, _, _, r, hr, _ => by cases hr
  | r :: rs, G, n, hv, hg, r', hr', hd => by
    rcases List.mem_cons.1 hr' with rfl | hr'
    · cases hN : inR r'.N with
      | true => rfl
      | false =>
        obtain ⟨m, hm, hl, hin, _⟩ := relV_parts (hv r' List.mem_cons_self)
        rw [hd] at hm
        simp only [varsN, Option.some.injEq] at hm
        have e : r'.vs.getD 0 0 = r'.vs[0]'(by omega) := by simp [List.getD_eq_getElem?_getD, List.getElem?_eq_getElem (show 0 < r'.vs.length by omega)]
        have hi := hin _ (List.getElem_mem (show 0 < r'.vs.length by omega))
        have h1 := hg (r'.vs.getD 0 0).toNat (by rw [e]; omega)
        have h2 : keepsG (r' :: rs) G (r'.vs.getD 0 0).toNat = true := keepsG_mono rs _ _ (by
          show kG r'.d r'.vs r'.N G _ = true
          unfold kG
          rw [hd]
          dsimp only
          rw [updG_same, hN]; simp)
        rw [h1] at h2; cases h2
    · exact hasG rs _ n (fun r'' h'' => hv r'' (List.mem_cons_of_mem _ h'')) hg r' hr' hd
theorem DS.closed {rs : List RelV} {F0 F : Nat → BdV} {n : Nat} (h : DS rs F0 F) (hr : ∀ r ∈ rs, relB r.d r.vs n = true) (hok : ∀ i, i < n → okB (keepsF rs F i) = true) (hg : ∀ i, i < n → keepsG rs (fun _ => false) i = false) (hs : sameB (normU n (keepsF rs F)) F n) : Cls rs F := by
  have hB := keeps_bits rs F h.2.2.1.bits
  have w1 := keeps_ws rs F h.2.2.1.bits
  have far := keeps_far rs F hr
  have e : normU n (keepsF rs F) = F := funext fun i => by
    by_cases hi : i < n
    · exact hs i hi
    · unfold normU; rw [if_neg hi, far i (by omega)]
  have w2 : WS (keepsF rs F) F := by
    have : WS (keepsF rs F) (normU n (keepsF rs F)) := fun i => by
      unfold normU
      by_cases e : i < n
      · rw [if_pos e]; exact wb_self (hB i).1 (hB i).2 (hok i e)
      · rw [if_neg e]; exact WB.refl _
    rwa [e] at this
  have ks := keeps_same rs F h.2.2.1.bits w2
  refine ⟨h.2.2.1.bits, h.2.1, fun i => (h.2.2.1.most i).1, fun r hr' => ?_⟩
  obtain ⟨m, hm, hl, hin, _⟩ := relV_parts (hr r hr')
  have hd : r.d ≠ .none := fun e => by rw [e] at hm; simp [varsN] at hm
  have q := kF_rel (vs := r.vs) (N := r.N) h.2.2.1.bits h.2.2.1.most hd (fun hh => hasG rs _ n hr hg r hr' hh)
  rw [ks r hr'] at q
  exact closed_rel hm hl h.2.2.1.bits q
theorem nar_of_wb {b c : BdV} (hb : c.lo < 18446744073709551616) (h : WB b c) (k : b.hi < 18446744073709551616) (k2 : c.hi < 18446744073709551616) (k3 : b.lo < 18446744073709551616) : nar c b := by
  obtain ⟨h1, h2, h3, h4⟩ := h
  exact ⟨sub_zero_le k3 hb ((sub_zero k3 hb).2 h1), sub_zero_le k2 k ((sub_zero k2 k).2 h2), h3, h4⟩
/-- the document and the program answer alike -/
theorem doc_same {rs : List RelV} {n : Nat} {F0 H : Nat → BdV} {b : Bool} (hr : ∀ r ∈ rs, relB r.d r.vs n = true) (hF : Fine F0) (hN : ∀ i, Nml (F0 i)) (s : Sett rs n F0 b H) (hHf : b = true → Fine H) :
    (∀ K, DS rs F0 K → Cls rs K → b = true ∧ K = H) ∧ ((∀ H', Cls rs H' → ¬ WF F0 H') → b = false) := by
  have vr : ∀ r ∈ rs, ∃ m, varsN r.d = some m ∧ r.vs.length = m := fun r hr' => by
    obtain ⟨m, hm, hl, _⟩ := relV_parts (hr r hr')
    exact ⟨m, hm, hl⟩
  have good : b = true → Cls rs H ∧ WF F0 H := fun hb => by
    subst hb
    obtain ⟨p1, p2, p3⟩ := sett_P (P := Nml) nml_norm vr s hF hN rfl
    exact ⟨⟨p3.bits, p1, fun i => (p3.most i).1, sett_closed hr hF p3 s⟩, hF.bits, ws_sett vr s hF rfl⟩
  refine ⟨fun K hd hc => ?_, fun hno => ?_⟩
  · obtain ⟨rfl, w⟩ := wf_sett hc.1 hc.2.1 hc.2.2.2 s ⟨hF.bits, hd.1⟩
    obtain ⟨g1, g2⟩ := good rfl
    exact ⟨rfl, funext fun i => ((hd.2.2.2 H g1 g2).2 i).anti (w.2 i)⟩
  · cases b with
    | false => rfl
    | true => exact absurd (good rfl).2 (hno H (good rfl).1)
end Go.Proofs.YthakhdbakmlooaaDoor
