/-
  Plain words of gaps and scans: two sources with a line's end between them; gaps that are laid between tokens. Nothing of the program stands here.
-/
import Derived.Test.YtjiihfdbdbhhaaaTokLoc
namespace Go.Proofs.Ytjiihfdbdbhhaaa.T

/-! whole gaps -/
def Gap (G : List UInt8) : Prop := ∀ X, skipN (G ++ X) = G.length + skipN X
theorem Gap.nil : Gap [] := fun X => by simp
theorem Gap.app {A B : List UInt8} (a : Gap A) (b : Gap B) : Gap (A ++ B) := fun X => by
  rw [List.append_assoc, a, b, List.length_append]; omega
theorem Gap.one {G : List UInt8} (h0 : G ≠ []) (h : ∀ X, gapN (G ++ X) = G.length) : Gap G := by
  intro X
  have hl : 0 < G.length := List.length_pos_iff.2 h0
  rw [skipN_step (by rw [h]; omega), h, List.drop_left]
theorem gapN_bl {c : UInt8} (h : blU c = true) (X : List UInt8) : gapN (c :: X) = 1 := by
  unfold gapN; simp only [h, if_true]
theorem Gap.bl {c : UInt8} (h : blU c = true) : Gap [c] := Gap.one (by simp) (fun X => gapN_bl h X)

theorem lineN_cut : ∀ l : List UInt8, lineN l < l.length → ∀ X, lineN (l.take (lineN l) ++ X) = lineN l := by
  intro l
  induction l with
  | nil => intro h; simp [lineN] at h
  | cons c r ih =>
    intro h X
    by_cases hc : (c == 10) = true
    · simp [lineN, hc]
    · have e : lineN (c :: r) = lineN r + 1 := by rw [lineN, if_neg hc]
      rw [e] at h ⊢
      simp only [List.length_cons] at h
      rw [List.take_succ_cons, List.cons_append, lineN, if_neg hc, ih (by omega)]
theorem lineN_full : ∀ l : List UInt8, lineN l = l.length → (l ≠ [] ∧ ∀ X, lineN (l ++ X) = l.length) ∨ (∀ X, lineN (l ++ 10 :: X) = l.length + 1) := by
  intro l
  induction l with
  | nil => intro _; right; intro X; rfl
  | cons c r ih =>
    intro h
    by_cases hc : (c == 10) = true
    · left
      refine ⟨by simp, fun X => ?_⟩
      have e : lineN (c :: r) = 1 := by rw [lineN, if_pos hc]
      rw [e] at h
      rw [List.cons_append, lineN, if_pos hc, ← h]
    · have e : lineN (c :: r) = lineN r + 1 := by rw [lineN, if_neg hc]
      rw [e] at h
      simp only [List.length_cons] at h
      rcases ih (by omega) with ⟨_, h'⟩ | h'
      · left
        refine ⟨by simp, fun X => ?_⟩
        rw [List.cons_append, lineN, if_neg hc, h', List.length_cons]
      · right
        intro X
        rw [List.cons_append, lineN, if_neg hc, h', List.length_cons]
theorem nestN_step (d : Nat) (a b : UInt8) (r : List UInt8) : nestN d (a :: b :: r) =
    if (a == 47 && b == 42) = true then (nestN (d + 1) r).map (· + 2)
    else if (a == 42 && b == 47) = true then (if d ≤ 1 then some 2 else (nestN (d - 1) r).map (· + 2))
    else (nestN d (b :: r)).map (· + 1) := by rw [nestN]
theorem nestN_cut : ∀ (f : Nat) (l : List UInt8) (d n : Nat) (X : List UInt8), l.length ≤ f → nestN d l = some n → nestN d (l.take n ++ X) = some n := by
  intro f
  induction f with
  | zero =>
    intro l d n X hl h
    have : l = [] := List.eq_nil_of_length_eq_zero (by omega)
    subst this
    simp [nestN] at h
  | succ f ih =>
    intro l d n X hl h
    match l, hl, h with
    | [], _, h => simp [nestN] at h
    | [_], _, h => simp [nestN] at h
    | a :: b :: r, hl, h =>
      simp only [List.length_cons] at hl
      rw [nestN_step] at h
      split at h
      · rename_i q
        obtain ⟨m, hm, rfl⟩ := Option.map_eq_some_iff.1 h
        have := ih r _ m X (by omega) hm
        simp only [List.take_succ_cons, List.cons_append]
        rw [nestN_step, if_pos q, this]; rfl
      · rename_i q
        split at h
        · rename_i q2
          split at h
          · rename_i q3
            cases h
            simp only [List.take_succ_cons, List.take_zero, List.cons_append, List.nil_append]
            rw [nestN_step, if_neg q, if_pos q2, if_pos q3]
          · rename_i q3
            obtain ⟨m, hm, rfl⟩ := Option.map_eq_some_iff.1 h
            have := ih r _ m X (by omega) hm
            simp only [List.take_succ_cons, List.cons_append]
            rw [nestN_step, if_neg q, if_pos q2, if_neg q3, this]; rfl
        · rename_i q2
          obtain ⟨m, hm, rfl⟩ := Option.map_eq_some_iff.1 h
          have hle := nestN_le _ _ _ _ (Nat.le_refl _) hm
          have := ih (b :: r) _ m X (by simp; omega) hm
          obtain ⟨k, rfl⟩ : ∃ k, m = k + 1 := ⟨m - 1, by omega⟩
          simp only [List.take_succ_cons, List.cons_append] at this ⊢
          rw [nestN_step, if_neg q, if_neg q2, this]; rfl
theorem nestedN_cut {l : List UInt8} (h : nestedN l ≠ 0) (X : List UInt8) : nestedN (l.take (nestedN l) ++ X) = nestedN l := by
  match l, h with
  | [], h => exact absurd rfl h
  | [_], h => exact absurd rfl h
  | a :: b :: r, h =>
    have e : ∀ r' : List UInt8, nestedN (a :: b :: r') = if (a == 47 && b == 42) = true then (match nestN 1 r' with | some n => n + 2 | none => 0) else 0 := fun _ => rfl
    by_cases q : (a == 47 && b == 42) = true
    · rw [e, if_pos q] at h ⊢
      rcases hn : nestN 1 r with _ | n
      · rw [hn] at h; exact absurd rfl h
      · simp only [List.take_succ_cons, List.cons_append]
        rw [e, if_pos q, nestN_cut _ r 1 n X (Nat.le_refl _) hn]
    · rw [e, if_neg q] at h; exact absurd rfl h
theorem gapN_cons (c : UInt8) (r : List UInt8) : gapN (c :: r) = if blU c = true then 1 else if (c == 37) = true then lineN (c :: r) else nestedN (c :: r) := rfl
theorem gapN_cut {l : List UInt8} (h0 : gapN l ≠ 0) (hlt : gapN l < l.length) (X : List UInt8) : gapN (l.take (gapN l) ++ X) = gapN l := by
  match l, h0, hlt with
  | [], h0, _ => exact absurd rfl h0
  | c :: r, h0, hlt =>
    by_cases q : blU c = true
    · rw [gapN_bl q]; simp only [List.take_succ_cons, List.take_zero, List.cons_append, List.nil_append, gapN_bl q]
    · by_cases q2 : (c == 37) = true
      · have e : gapN (c :: r) = lineN (c :: r) := by rw [gapN_cons, if_neg q, if_pos q2]
        rw [e] at hlt ⊢
        have := lineN_cut _ hlt X
        obtain ⟨k, hk⟩ : ∃ k, lineN (c :: r) = k + 1 := ⟨lineN (c :: r) - 1, by have := lineN_pos c r; omega⟩
        rw [hk] at this ⊢
        rw [List.take_succ_cons, List.cons_append] at this ⊢
        rw [gapN_cons, if_neg q, if_pos q2, this]
      · have e : gapN (c :: r) = nestedN (c :: r) := by rw [gapN_cons, if_neg q, if_neg q2]
        rw [e] at h0 ⊢
        have := nestedN_cut h0 X
        obtain ⟨k, hk⟩ : ∃ k, nestedN (c :: r) = k + 1 := ⟨nestedN (c :: r) - 1, by omega⟩
        rw [hk] at this ⊢
        rw [List.take_succ_cons, List.cons_append] at this ⊢
        rw [gapN_cons, if_neg q, if_neg q2, this]
theorem gapN_full {l : List UInt8} (h0 : gapN l ≠ 0) (hl : gapN l = l.length) : (∀ X, gapN (l ++ X) = l.length) ∨ (∀ X, gapN (l ++ 10 :: X) = l.length + 1) := by
  match l, h0, hl with
  | [], h0, _ => exact absurd rfl h0
  | c :: r, h0, hl =>
    by_cases q : blU c = true
    · left; intro X
      rw [gapN_bl q] at hl
      rw [List.cons_append, gapN_bl q, hl]
    · by_cases q2 : (c == 37) = true
      · have e : ∀ r', gapN (c :: r') = lineN (c :: r') := fun r' => by rw [gapN_cons, if_neg q, if_pos q2]
        rw [e] at hl
        rcases lineN_full _ hl with ⟨_, h'⟩ | h'
        · left; intro X; rw [List.cons_append, e]; exact h' X
        · right; intro X; rw [List.cons_append, e]; exact h' X
      · have e : ∀ r', gapN (c :: r') = nestedN (c :: r') := fun r' => by rw [gapN_cons, if_neg q, if_neg q2]
        left; intro X
        rw [e] at h0 hl
        have := nestedN_cut h0 X
        rw [hl, List.take_length] at this
        rw [List.cons_append, e]; exact this
theorem take_gap : ∀ (f : Nat) (l : List UInt8), l.length ≤ f → skipN l < l.length → Gap (l.take (skipN l)) := by
  intro f
  induction f with
  | zero => intro l hl h; omega
  | succ f ih =>
    intro l hl h
    by_cases h0 : gapN l = 0
    · rw [skipN_zero h0, List.take_zero]; exact Gap.nil
    · have hs := skipN_step h0
      rw [hs] at h ⊢
      have h1 : gapN l < l.length := by omega
      rw [List.take_add]
      refine Gap.app (Gap.one ?_ (fun X => ?_)) (ih _ (by simp; omega) (by simp; omega))
      · intro e
        rcases List.take_eq_nil_iff.1 e with e' | e'
        · exact h0 e'
        · subst e'; exact h0 rfl
      · rw [gapN_cut h0 h1]; simp; omega
theorem end_gap : ∀ (f : Nat) (l : List UInt8), l.length ≤ f → skipN l = l.length → Gap (l ++ [10]) := by
  intro f
  induction f with
  | zero =>
    intro l hl _
    have : l = [] := List.eq_nil_of_length_eq_zero (by omega)
    subst this
    exact Gap.bl (by decide)
  | succ f ih =>
    intro l hl h
    by_cases hn : l = []
    · subst hn; exact Gap.bl (by decide)
    · have hp : 0 < l.length := List.length_pos_iff.2 hn
      have h0 : gapN l ≠ 0 := by intro e; rw [skipN_zero e] at h; omega
      have hs := skipN_step h0
      have hle := gapN_le l
      rcases Nat.lt_or_ge (gapN l) l.length with h1 | h1
      · have e : l ++ [10] = l.take (gapN l) ++ (l.drop (gapN l) ++ [10]) := by rw [← List.append_assoc, List.take_append_drop]
        rw [e]
        refine Gap.app (Gap.one ?_ (fun X => ?_)) (ih _ (by simp; omega) (by simp; omega))
        · intro e
          rcases List.take_eq_nil_iff.1 e with e' | e'
          · exact h0 e'
          · subst e'; exact h0 rfl
        · rw [gapN_cut h0 h1]; simp; omega
      · rcases gapN_full h0 (by omega) with h' | h'
        · exact Gap.app (Gap.one hn h') (Gap.bl (by decide))
        · exact Gap.one (by simp) (fun X => by rw [List.append_assoc]; simpa using h' X)
theorem gap_head {l : List UInt8} (h : gapN l ≠ 0) : ∃ c r, l = c :: r ∧ ∀ X, endB (c :: X) = true := by
  match l, h with
  | [], h => exact absurd rfl h
  | c :: r, h =>
    refine ⟨c, r, rfl, fun X => ?_⟩
    rw [gapN_cons] at h
    unfold endB
    by_cases q : blU c = true
    · unfold blU blB at q
      simp only [Bool.or_eq_true, beq_iff_eq] at q ⊢
      have hq : c.toNat = 32 ∨ c.toNat = 9 ∨ c.toNat = 10 ∨ c.toNat = 13 := by omega
      rcases hq with e | e | e | e
      · exact .inl (.inl (.inl (.inl (.inl (UInt8.toNat_inj.1 e)))))
      · exact .inl (.inl (.inl (.inl (.inr (UInt8.toNat_inj.1 e)))))
      · exact .inl (.inl (.inl (.inr (UInt8.toNat_inj.1 e))))
      · exact .inl (.inl (.inr (UInt8.toNat_inj.1 e)))
    · rw [if_neg q] at h
      by_cases q2 : (c == 37) = true
      · simp [q2]
      · rw [if_neg q2] at h
        rcases r with _ | ⟨b, r⟩
        · exact absurd rfl h
        · have e : nestedN (c :: b :: r) = if (c == 47 && b == 42) = true then (match nestN 1 r with | some n => n + 2 | none => 0) else 0 := rfl
          rw [e] at h
          by_cases q3 : (c == 47 && b == 42) = true
          · simp only [Bool.and_eq_true] at q3
            simp [q3.1]
          · rw [if_neg q3] at h; exact absurd rfl h
theorem end_noread {c : UInt8} (h : ∀ X, endB (c :: X) = true) (r : List UInt8) : readT (c :: r) = none := by
  have hc := endB_cons (h [])
  have hs : signT (c :: r) = none := by
    rcases hx : signT (c :: r) with _ | x
    · rfl
    · exfalso
      rcases signT_inv hx with ⟨a, b, d, X, e, h3, _⟩ | ⟨a, b, X, e, h2, _⟩ | ⟨a, X, e, h1, _⟩ <;> cases e <;> rcases hc with q | q | q | q | q | q <;> subst q <;> simp [signL] at *
  rw [readT_cons, hs]
  rcases hc with q | q | q | q | q | q <;> subst q <;> simp [upB, loB, diU, diB]
theorem read_nogap {l : List UInt8} {r : Rd} (h : readT l = some r) : gapN l = 0 := by
  by_cases h0 : gapN l = 0
  · exact h0
  · obtain ⟨c, r', rfl, he⟩ := gap_head h0
    rw [end_noread he] at h
    cases h
theorem skip_head {l : List UInt8} (h : skipN l ≠ 0) (X : List UInt8) : endB (l.take (skipN l) ++ X) = true := by
  have h0 : gapN l ≠ 0 := fun e => h (skipN_zero e)
  obtain ⟨c, r, rfl, he⟩ := gap_head h0
  obtain ⟨k, hk⟩ : ∃ k, skipN (c :: r) = k + 1 := ⟨skipN (c :: r) - 1, by omega⟩
  rw [hk, List.take_succ_cons, List.cons_append]
  exact he _
theorem follow_app (D t : List UInt8) : follow D (D ++ 10 :: t) := by
  match D with
  | [] => exact .inl rfl
  | [c] => exact .inr ⟨c, [], 10 :: t, rfl, rfl, .inl rfl⟩
  | c :: d :: D => exact .inr ⟨c, d :: D, d :: D ++ 10 :: t, rfl, rfl, .inr ⟨d, D, D ++ 10 :: t, rfl, rfl⟩⟩
end Go.Proofs.Ytjiihfdbdbhhaaa.T
