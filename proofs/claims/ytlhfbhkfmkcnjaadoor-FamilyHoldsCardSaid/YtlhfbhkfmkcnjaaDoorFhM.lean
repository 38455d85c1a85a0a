/-
  Whether a relation holds: the document's word, in plain form; and that it is the program's.
-/
import Derived.Test.YtlhfbhkfmkcnjaaDoorFhP
namespace Go.Proofs.YtlhfbhkfmkcnjaaDoor
open Go Go.RowKit Go.Ev

/-- the document's test of all elements -/
def elemB (d : Kd) (x y z : Bool) : Bool := match d with
  | .union => z == (x || y)
  | .meet => z == (x && y)
  | .minus => z == (x && !y)
  | _ => true
def kindR (d : Kd) (a b c : List Int) (N : Int) : Bool := match d with
  | .part => a.all fun x => b.contains x == true
  | .apart => a.all fun x => b.contains x == false
  | .has => a.contains N
  | .lacks => !a.contains N
  | .size => decide ((a.length : Int) = N)
  | _ => (a ++ b ++ c).all fun x => elemB d (a.contains x) (b.contains x) (c.contains x)
theorem asc_pairwise {xs : List Int} (h : ascB xs = true) : xs.Pairwise (· < ·) := by
  rw [List.pairwise_iff_getElem]
  exact fun i j hi hj hij => ascB_lt h i j hij hj
theorem asc_ext : ∀ {l m : List Int}, l.Pairwise (· < ·) → m.Pairwise (· < ·) → (∀ x, x ∈ l ↔ x ∈ m) → l = m
  | [], [], _, _, _ => rfl
  | [], y :: m, _, _, h => absurd ((h y).2 (by simp)) (by simp)
  | x :: l, [], _, _, h => absurd ((h x).1 (by simp)) (by simp)
  | x :: l, y :: m, hl, hm, h => by
    have l1 := List.pairwise_cons.1 hl
    have m1 := List.pairwise_cons.1 hm
    have e : x = y := by
      have a1 := (h x).1 (by simp)
      have a2 := (h y).2 (by simp)
      rcases List.mem_cons.1 a1 with a1 | a1
      · exact a1
      · rcases List.mem_cons.1 a2 with a2 | a2
        · exact a2.symm
        · have := m1.1 x a1; have := l1.1 y a2; omega
    subst e
    rw [asc_ext l1.2 m1.2 fun z => ?_]
    have hz := h z
    simp only [List.mem_cons] at hz
    constructor
    · intro hzl
      rcases hz.1 (Or.inr hzl) with rfl | h2
      · have := l1.1 z hzl; omega
      · exact h2
    · intro hzm
      rcases hz.2 (Or.inr hzm) with rfl | h2
      · have := m1.1 z hzm; omega
      · exact h2
theorem filter_eq_iff {a c : List Int} {p : Int → Bool} (ha : ascB a = true) (hc : ascB c = true) : (a.filter p = c) ↔ ∀ x, (x ∈ a ∧ p x = true) ↔ x ∈ c := by
  constructor
  · intro h x
    rw [← h, List.mem_filter]
  · intro h
    exact asc_ext ((asc_pairwise ha).filter _) (asc_pairwise hc) fun x => by rw [List.mem_filter]; exact h x
theorem kind_eq (d : Kd) (a b c : List Int) (N : Int) (ha : ascB a = true) (hc : ascB c = true) (hd : varsN d ≠ none) : kindR d a b c N = kindB d a b c N := by
  have mem : ∀ (l : List Int) (x : Int), l.contains x = true ↔ x ∈ l := fun l x => List.contains_iff_mem
  have nmem : ∀ (l : List Int) (x : Int), l.contains x = false ↔ ¬ x ∈ l := fun l x => by rw [← Bool.not_eq_true, List.contains_iff_mem]
  cases d with
  | part => simp [kindR, kindB]
  | apart => simp [kindR, kindB]
  | has => rfl
  | lacks => rfl
  | size => rfl
  | none => exact absurd rfl hd
  | union =>
    rw [Bool.eq_iff_iff]
    simp only [kindR, kindB, elemB, List.all_eq_true, List.mem_append, Bool.and_eq_true, List.mem_filter, beq_iff_eq, mem, Bool.not_eq_true', nmem]
    constructor
    · intro h
      refine ⟨⟨fun x hx => ?_, fun x hx => ?_⟩, fun x hx => ?_⟩
      · have := h x (.inl (.inl hx)); rw [(mem a x).2 hx, Bool.true_or] at this; exact (mem c x).1 this
      · have := h x (.inl (.inr hx)); rw [(mem b x).2 hx, Bool.or_true] at this; exact (mem c x).1 this
      · have := h x (.inr hx.1); rw [(mem c x).2 hx.1, (nmem a x).2 hx.2, Bool.false_or] at this; exact (mem b x).1 this.symm
    · rintro ⟨⟨h1, h2⟩, h3⟩ x hx
      by_cases xa : x ∈ a
      · rw [(mem a x).2 xa, (mem c x).2 (h1 x xa)]; rfl
      · by_cases xb : x ∈ b
        · rw [(mem b x).2 xb, (mem c x).2 (h2 x xb), Bool.or_true]
        · rcases hx with (hx | hx) | hx
          · exact absurd hx xa
          · exact absurd hx xb
          · exact absurd (h3 x ⟨hx, xa⟩) xb
  | meet =>
    rw [Bool.eq_iff_iff]
    simp only [kindR, kindB, elemB, decide_eq_true_eq, filter_eq_iff ha hc, List.all_eq_true, List.mem_append, beq_iff_eq, mem]
    constructor
    · intro h x
      constructor
      · rintro ⟨xa, xb⟩
        have := h x (.inl (.inl xa)); rw [(mem a x).2 xa, (mem b x).2 xb] at this; exact (mem c x).1 this
      · intro xc
        have := h x (.inr xc); rw [(mem c x).2 xc] at this
        have := this.symm
        rw [Bool.and_eq_true] at this
        exact ⟨(mem a x).1 this.1, (mem b x).1 this.2⟩
    · intro h x _
      rw [Bool.eq_iff_iff, Bool.and_eq_true, mem, mem, mem]
      exact (h x).symm
  | minus =>
    rw [Bool.eq_iff_iff]
    simp only [kindR, kindB, elemB, decide_eq_true_eq, filter_eq_iff ha hc, List.all_eq_true, List.mem_append, beq_iff_eq, Bool.not_eq_true', nmem]
    constructor
    · intro h x
      constructor
      · rintro ⟨xa, xb⟩
        have := h x (.inl (.inl xa)); rw [(mem a x).2 xa, (nmem b x).2 xb] at this; exact (mem c x).1 this
      · intro xc
        have := h x (.inr xc); rw [(mem c x).2 xc] at this
        have := this.symm
        rw [Bool.and_eq_true, Bool.not_eq_true'] at this
        exact ⟨(mem a x).1 this.1, (nmem b x).1 this.2⟩
    · intro h x _
      rw [Bool.eq_iff_iff, Bool.and_eq_true, Bool.not_eq_true', mem, mem, nmem]
      exact (h x).symm
end Go.Proofs.YtlhfbhkfmkcnjaaDoor
