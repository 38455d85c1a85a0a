/-
  Plain facts on words that stand with a space around each.
-/
import Derived.Test.YtnfmfofialoioaaGreatDoorTokSpec
namespace Go.Proofs.YtnfmfofialoioaaGreatDoor.T

def sp : List (List UInt8) → List UInt8
  | [] => [32]
  | w :: ws => 32 :: (w ++ sp ws)
def occL (s l : List UInt8) (k : Nat) : Bool := (l.drop k).take (s.length + 2) == 32 :: (s ++ [32])

theorem sp_cons (ws : List (List UInt8)) : ∃ r, sp ws = 32 :: r := by
  cases ws with
  | nil => exact ⟨[], rfl⟩
  | cons w ws => exact ⟨_, rfl⟩

theorem word_of_take (s : List UInt8) : ∀ (w r : List UInt8), (∀ c ∈ s, c ≠ 32) → (∀ c ∈ w, c ≠ 32) → (w ++ 32 :: r).take (s.length + 1) = s ++ [32] → s = w := by
  induction s with
  | nil =>
    intro w r _ hw h
    cases w with
    | nil => rfl
    | cons c w => simp at h; exact absurd h (hw c (by simp))
  | cons a s ih =>
    intro w r hs hw h
    cases w with
    | nil => simp at h; exact absurd h.1.symm (hs a (by simp))
    | cons c w =>
      simp only [List.cons_append, List.length_cons, List.take_succ_cons, List.cons.injEq] at h
      obtain ⟨rfl, h⟩ := h
      rw [ih w r (fun c hc => hs c (by simp [hc])) (fun c hc => hw c (by simp [hc])) h]

theorem mem_of_occ (s : List UInt8) (hs : ∀ c ∈ s, c ≠ 32) : ∀ (ws : List (List UInt8)), (∀ w ∈ ws, ∀ c ∈ w, c ≠ 32) → ∀ k, occL s (sp ws) k = true → s ∈ ws := by
  intro ws
  induction ws with
  | nil =>
    intro _ k h
    unfold occL at h
    have h := congrArg List.length (eq_of_beq h)
    simp [sp] at h
    omega
  | cons w ws ih =>
    intro hw k h
    unfold occL at h
    have h := eq_of_beq h
    cases k with
    | zero =>
      simp only [sp, List.drop_zero, List.take_succ_cons, List.cons.injEq, true_and] at h
      obtain ⟨r, hr⟩ := sp_cons ws
      rw [hr] at h
      rw [word_of_take s w r hs (hw w (by simp)) h]
      simp
    | succ k =>
      simp only [sp, List.drop_succ_cons] at h
      rcases Nat.lt_or_ge k w.length with hk | hk
      · rw [List.drop_append_of_le_length (by omega), List.drop_eq_getElem_cons hk] at h
        simp only [List.cons_append, List.take_succ_cons, List.cons.injEq] at h
        exact absurd h.1 (hw w (by simp) _ (List.getElem_mem hk))
      · rw [List.drop_append, List.drop_of_length_le hk, List.nil_append] at h
        exact List.mem_cons_of_mem _ (ih (fun w hw' => hw w (by simp [hw'])) (k - w.length) (by unfold occL; rw [h]; simp))

theorem occ_of_mem (s : List UInt8) : ∀ (ws : List (List UInt8)), s ∈ ws → ∃ k, k + s.length + 2 ≤ (sp ws).length ∧ occL s (sp ws) k = true := by
  intro ws
  induction ws with
  | nil => intro h; cases h
  | cons w ws ih =>
    intro h
    rcases List.mem_cons.1 h with rfl | h
    · obtain ⟨r, hr⟩ := sp_cons ws
      refine ⟨0, ?_, ?_⟩
      · simp [sp, hr]
      · unfold occL
        simp [sp, hr, List.take_append]
        rw [List.take_of_length_le (by omega)]
    · obtain ⟨k, h1, h2⟩ := ih h
      refine ⟨k + w.length + 1, ?_, ?_⟩
      · simp [sp]; omega
      · unfold occL at h2 ⊢
        simp only [sp, List.drop_succ_cons]
        rw [List.drop_append, List.drop_of_length_le (by omega), List.nil_append, Nat.add_sub_cancel]
        exact h2

theorem keyL_mem (l : List UInt8) : keyL l = decide (l ∈ keys) := by
  rw [Bool.eq_iff_iff]
  simp [keyL, keys, or_assoc]
theorem signL_mem (l : List UInt8) : signL l = decide (l ∈ signs) := by
  rw [Bool.eq_iff_iff]
  simp [signL, signs, or_assoc]
theorem keys_ok : ∀ w ∈ keys, ∀ c ∈ w, c ≠ 32 := by decide
theorem signs_ok : ∀ w ∈ signs, ∀ c ∈ w, c ≠ 32 := by decide
theorem keys_ne : ∀ w ∈ keys, w ≠ [] := by decide
theorem signs_ne : ∀ w ∈ signs, w ≠ [] := by decide
end Go.Proofs.YtnfmfofialoioaaGreatDoor.T
