/-
  Plain facts on the reading of a whole source.
-/
import Derived.Test.YtjiihfdbdbhhaaaTokR
namespace Go.Proofs.Ytjiihfdbdbhhaaa.T

theorem tw_le (p : UInt8 → Bool) (l : List UInt8) : (l.takeWhile p).length ≤ l.length := by
  induction l with
  | nil => simp
  | cons a l ih => rw [List.takeWhile_cons]; split <;> simp <;> omega
theorem tw_pos (p : UInt8 → Bool) (a : UInt8) (l : List UInt8) (h : p a = true) : 1 ≤ ((a :: l).takeWhile p).length := by
  rw [List.takeWhile_cons, if_pos h]; simp
theorem qpar_le (m : UInt8) : ∀ (f : Nat) (l : List UInt8) (p : List UInt8 × Nat), l.length ≤ f → qpar m l = some p → 1 ≤ p.2 ∧ p.2 ≤ l.length := by
  intro f
  induction f with
  | zero =>
    intro l p hl h
    match l, hl with
    | [], _ => simp [qpar] at h
  | succ f ih =>
    intro l p hl h
    match l, hl, h with
    | [], _, h => simp [qpar] at h
    | [c], _, h =>
      unfold qpar at h
      split at h
      · cases h; simp
      · cases h
    | c :: d :: r, hl, h =>
      simp only [List.length_cons] at hl ⊢
      unfold qpar at h
      split at h
      · cases h; simp
      · split at h
        · split at h
          · obtain ⟨q, hq, rfl⟩ := Option.map_eq_some_iff.1 h
            have := ih r q (by omega) hq
            simp only []; omega
          · split at h
            · obtain ⟨q, hq, rfl⟩ := Option.map_eq_some_iff.1 h
              have := ih r q (by omega) hq
              simp only []; omega
            · cases h
        · split at h
          · obtain ⟨q, hq, rfl⟩ := Option.map_eq_some_iff.1 h
            have := ih (d :: r) q (by simp; omega) hq
            simp only [List.length_cons] at this ⊢; omega
          · cases h
theorem wordT_size {l : List UInt8} {c : UInt8} {r0 : List UInt8} (hl : l = c :: r0) (hc : woU c = true) {r : Rd} (h : wordT l = some r) : 1 ≤ r.size ∧ r.size ≤ l.length := by
  unfold wordT at h
  simp only [] at h
  split at h
  · cases h
    subst hl
    exact ⟨tw_pos _ _ _ hc, tw_le _ _⟩
  · cases h
theorem numT_size {l : List UInt8} {c : UInt8} {r0 : List UInt8} (hl : l = c :: r0) (hc : diU c = true) {r : Rd} (h : numT l = some r) : 1 ≤ r.size ∧ r.size ≤ l.length := by
  unfold numT at h
  simp only [] at h
  split at h
  · cases h
    subst hl
    exact ⟨tw_pos _ _ _ hc, tw_le _ _⟩
  · cases h
theorem minusT_size {l : List UInt8} {r : Rd} (h : minusT l = some r) : 1 ≤ r.size ∧ r.size ≤ l.length + 1 := by
  unfold minusT at h
  simp only [] at h
  have := tw_le diU l
  split at h
  · cases h; simp
  · split at h
    · cases h; simp only []; omega
    · cases h
theorem quoteT_size {k : List UInt8} {most : Nat} {m : UInt8} {l : List UInt8} {r : Rd} (h : quoteT k most m l = some r) : 1 ≤ r.size ∧ r.size ≤ l.length + 1 := by
  unfold quoteT at h
  split at h
  · rename_i t n hq
    have := qpar_le m _ _ _ (Nat.le_refl _) hq
    split at h
    · cases h; simp only [] at this ⊢; omega
    · cases h
  · cases h
theorem charT_size {l : List UInt8} {r : Rd} (h : charT l = some r) : 1 ≤ r.size ∧ r.size ≤ l.length + 1 := by
  unfold charT at h
  match l, h with
  | [], h => cases h
  | [c], h =>
    simp only [] at h
    repeat' split at h
    all_goals first | cases h; simp | cases h
  | c :: d :: r', h =>
    simp only [] at h
    repeat' split at h
    all_goals first | (cases h; done) | (cases h; simp)
theorem signT_size {l : List UInt8} {r : Rd} (h : signT l = some r) : 1 ≤ r.size ∧ r.size ≤ l.length := by
  unfold signT at h
  split at h
  · rename_i q; simp only [Bool.and_eq_true, decide_eq_true_eq] at q
    cases h; simp only []; omega
  · split at h
    · rename_i q; simp only [Bool.and_eq_true, decide_eq_true_eq] at q
      cases h; simp only []; omega
    · split at h
      · rename_i q; simp only [Bool.and_eq_true, decide_eq_true_eq] at q
        cases h; simp only []; omega
      · cases h
theorem wo_of_letter (c : UInt8) (h : (upB (c.toNat : Int) || loB (c.toNat : Int)) = true) : woU c = true := by
  unfold woU woB
  rw [h]; rfl
def nextD (l : List UInt8) : Bool := match l with
  | [] => false
  | d :: _ => diU d
theorem readT_cons (c : UInt8) (r : List UInt8) : readT (c :: r) =
    if (upB (c.toNat : Int) || loB (c.toNat : Int)) = true then wordT (c :: r)
    else if diU c = true then numT (c :: r)
    else if (c == 126 && nextD r) = true then minusT r
    else if (c == 39) = true then quoteT kAtom 60 39 r
    else if (c == 34) = true then quoteT kText 200 34 r
    else if (c == 38) = true then charT r
    else signT (c :: r) := by
  cases r <;> rfl
theorem readT_size {l : List UInt8} {r : Rd} (h : readT l = some r) : 1 ≤ r.size ∧ r.size ≤ l.length := by
  match l, h with
  | [], h => cases h
  | c :: r0, h =>
    rw [readT_cons] at h
    split at h
    · rename_i q
      exact wordT_size rfl (wo_of_letter c q) h
    · split at h
      · rename_i q
        exact numT_size rfl q h
      · split at h
        · have := minusT_size h; simp only [List.length_cons]; omega
        · split at h
          · have := quoteT_size h; simp only [List.length_cons]; omega
          · split at h
            · have := quoteT_size h; simp only [List.length_cons]; omega
            · split at h
              · have := charT_size h; simp only [List.length_cons]; omega
              · exact signT_size h

structure Tk where
  kind : List UInt8
  text : List UInt8
  at_ : Nat
/-- the tokens from a place on that is behind a gap, and the bad place -/
def scanF : Nat → List UInt8 → Nat → List Tk × Option Nat
  | 0, _, _ => ([], none)
  | f + 1, L, k => if k < L.length then
      (match readT (L.drop k) with
       | none => ([], some k)
       | some r => (⟨r.kind, r.text, k⟩ :: (scanF f L (k + r.size + skipN (L.drop (k + r.size)))).1, (scanF f L (k + r.size + skipN (L.drop (k + r.size)))).2))
    else ([], none)
theorem scanF_more : ∀ (f g : Nat) (L : List UInt8) (k : Nat), L.length < f + k → L.length < g + k → scanF f L k = scanF g L k := by
  intro f
  induction f with
  | zero =>
    intro g L k hf hg
    cases g with
    | zero => rfl
    | succ g => unfold scanF; rw [if_neg (by omega)]
  | succ f ih =>
    intro g L k hf hg
    cases g with
    | zero => unfold scanF; rw [if_neg (by omega)]
    | succ g =>
      unfold scanF
      by_cases hk : k < L.length
      · rw [if_pos hk, if_pos hk]
        rcases hr : readT (L.drop k) with _ | r
        · rfl
        · have := readT_size hr
          simp only []
          rw [ih g L (k + r.size + skipN (L.drop (k + r.size))) (by omega) (by omega)]
      · rw [if_neg hk, if_neg hk]
def scanN (L : List UInt8) (k : Nat) : List Tk × Option Nat := scanF (L.length + 1) L k
theorem scanN_end {L : List UInt8} {k : Nat} (h : ¬ k < L.length) : scanN L k = ([], none) := by
  unfold scanN scanF; rw [if_neg h]
theorem scanN_bad {L : List UInt8} {k : Nat} (h : k < L.length) (hr : readT (L.drop k) = none) : scanN L k = ([], some k) := by
  unfold scanN scanF; rw [if_pos h, hr]
theorem scanN_tok {L : List UInt8} {k : Nat} (h : k < L.length) {r : Rd} (hr : readT (L.drop k) = some r) :
    scanN L k = (⟨r.kind, r.text, k⟩ :: (scanN L (k + r.size + skipN (L.drop (k + r.size)))).1, (scanN L (k + r.size + skipN (L.drop (k + r.size)))).2) := by
  have := readT_size hr
  unfold scanN
  rw [show scanF (L.length + 1) L k = if k < L.length then (match readT (L.drop k) with
       | none => ([], some k)
       | some r => (⟨r.kind, r.text, k⟩ :: (scanF L.length L (k + r.size + skipN (L.drop (k + r.size)))).1, (scanF L.length L (k + r.size + skipN (L.drop (k + r.size)))).2)) else ([], none) from rfl]
  rw [if_pos h, hr]
  simp only []
  rw [scanF_more L.length (L.length + 1) L (k + r.size + skipN (L.drop (k + r.size))) (by omega) (by omega)]
end Go.Proofs.Ytjiihfdbdbhhaaa.T
