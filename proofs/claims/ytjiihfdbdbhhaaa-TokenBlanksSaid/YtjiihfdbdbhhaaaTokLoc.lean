/-
  Plain words of locality: a token that is read at the head of a text is read at the head of its own bytes, whatever follows that can't lengthen it. Nothing of the program stands here.
-/
import Derived.Test.YtjiihfdbdbhhaaaTokW
namespace Go.Proofs.Ytjiihfdbdbhhaaa.T

/-- what can't lengthen a token: nothing, a blank, or the first byte of a remark -/
def endB (X : List UInt8) : Bool := match X with
  | [] => true
  | c :: _ => c == 32 || c == 9 || c == 10 || c == 13 || c == 37 || c == 47
/-- what follows now against what followed before -/
def follow (Y X : List UInt8) : Prop := endB X = true ∨ ∃ c Y' X', Y = c :: Y' ∧ X = c :: X' ∧ (endB X' = true ∨ ∃ d Y'' X'', Y' = d :: Y'' ∧ X' = d :: X'')

theorem endB_cons {c : UInt8} {X : List UInt8} (h : endB (c :: X) = true) : c = 32 ∨ c = 9 ∨ c = 10 ∨ c = 13 ∨ c = 37 ∨ c = 47 := by
  simpa only [endB, Bool.or_eq_true, beq_iff_eq, or_assoc] using h
theorem end_not_wo {c : UInt8} {X : List UInt8} (h : endB (c :: X) = true) : woU c = false := by
  rcases endB_cons h with h | h | h | h | h | h <;> subst h <;> decide
theorem end_not_di {c : UInt8} {X : List UInt8} (h : endB (c :: X) = true) : diU c = false := by
  rcases endB_cons h with h | h | h | h | h | h <;> subst h <;> decide

theorem tw_append (p : UInt8 → Bool) : ∀ (s X : List UInt8), s.all p = true → (X = [] ∨ ∃ c X', X = c :: X' ∧ p c = false) → (s ++ X).takeWhile p = s := by
  intro s
  induction s with
  | nil =>
    intro X _ h
    rcases h with rfl | ⟨c, X', rfl, hc⟩
    · rfl
    · simp [hc]
  | cons a s ih =>
    intro X ha h
    simp only [List.all_cons, Bool.and_eq_true] at ha
    simp only [List.cons_append, List.takeWhile_cons, ha.1, if_true, ih X ha.2 h]
theorem tw_take (p : UInt8 → Bool) (l : List UInt8) : l.take (l.takeWhile p).length = l.takeWhile p := by
  induction l with
  | nil => rfl
  | cons a l ih =>
    by_cases h : p a = true
    · simp [h, ih]
    · simp [h]
theorem tw_drop (p : UInt8 → Bool) (l : List UInt8) : l.drop (l.takeWhile p).length = [] ∨ ∃ c r, l.drop (l.takeWhile p).length = c :: r ∧ p c = false := by
  induction l with
  | nil => left; rfl
  | cons a l ih =>
    by_cases h : p a = true
    · simpa [h] using ih
    · right; exact ⟨a, l, by simp [h], by simpa using h⟩
theorem tw_all (p : UInt8 → Bool) (l : List UInt8) : (l.takeWhile p).all p = true := by
  induction l with
  | nil => rfl
  | cons a l ih =>
    by_cases h : p a = true
    · simp [h]
    · simp [h]
theorem tw_follow (p : UInt8 → Bool) (hp : ∀ (c : UInt8) (X : List UInt8), endB (c :: X) = true → p c = false) (l X : List UInt8) (h : follow (l.drop (l.takeWhile p).length) X) :
    (l.take (l.takeWhile p).length ++ X).takeWhile p = l.takeWhile p := by
  rw [tw_take]
  refine tw_append p _ _ (tw_all p l) ?_
  rcases X with _ | ⟨c, X⟩
  · left; rfl
  · right
    refine ⟨c, X, rfl, ?_⟩
    rcases h with h | ⟨c', Y', X', hY, hX, _⟩
    · exact hp c X h
    · cases hX
      rcases tw_drop p l with e | ⟨d, r, e, hd⟩
      · rw [e] at hY; cases hY
      · rw [e] at hY; cases hY; exact hd

theorem qpar_local (m : UInt8) : ∀ (f : Nat) (l : List UInt8) (p : List UInt8 × Nat) (X : List UInt8), l.length ≤ f → qpar m l = some p → qpar m (l.take p.2 ++ X) = some p := by
  intro f
  induction f with
  | zero =>
    intro l p X hl h
    have : l = [] := List.eq_nil_of_length_eq_zero (by omega)
    subst this
    simp [qpar] at h
  | succ f ih =>
    intro l p X hl h
    have one : ∀ (c : UInt8) (Y : List UInt8), (c == m) = true → qpar m (c :: Y) = some ([], 1) := by
      intro c Y hc
      rcases Y with _ | ⟨y, Y⟩ <;> simp only [qpar, hc, if_true]
    match l, hl, h with
    | [], _, h => simp [qpar] at h
    | [c], _, h =>
      simp only [qpar] at h
      split at h
      · rename_i q; cases h; exact one c X q
      · cases h
    | c :: d :: r, hl, h =>
      simp only [List.length_cons] at hl
      simp only [qpar] at h
      split at h
      · rename_i q; cases h; exact one c X q
      · rename_i q
        have two : ∀ (d' : UInt8) (r' : List UInt8), qpar m (c :: d' :: r') = if (c == 92) = true then
            (if (d' == m || d' == 92) = true then (qpar m r').map (fun p => (d' :: p.1, p.2 + 2))
             else if (d' == 110) = true then (qpar m r').map (fun p => (10 :: p.1, p.2 + 2)) else none)
            else if prB (c.toNat : Int) = true then (qpar m (d' :: r')).map (fun p => (c :: p.1, p.2 + 1)) else none := by
          intro d' r'
          rw [qpar, if_neg q]
        split at h
        · rename_i q2
          split at h
          · rename_i q3
            obtain ⟨p', hp', rfl⟩ := Option.map_eq_some_iff.1 h
            have := ih r p' X (by omega) hp'
            simp only [List.take_succ_cons, List.cons_append]
            rw [two, if_pos q2, if_pos q3, this]; rfl
          · split at h
            · rename_i q3 q4
              obtain ⟨p', hp', rfl⟩ := Option.map_eq_some_iff.1 h
              have := ih r p' X (by omega) hp'
              simp only [List.take_succ_cons, List.cons_append]
              rw [two, if_pos q2, if_neg q3, if_pos q4, this]; rfl
            · cases h
        · rename_i q2
          split at h
          · rename_i q3
            obtain ⟨p', hp', rfl⟩ := Option.map_eq_some_iff.1 h
            have := ih (d :: r) p' X (by simp; omega) hp'
            have p1 := (qpar_le m _ _ _ (Nat.le_refl _) hp').1
            obtain ⟨n, hn⟩ : ∃ n, p'.2 = n + 1 := ⟨p'.2 - 1, by omega⟩
            rw [hn] at this
            simp only [hn, List.take_succ_cons, List.cons_append] at this ⊢
            rw [two, if_neg q2, if_pos q3, this]
            simp [hn]
          · cases h

theorem signT_three (a b c : UInt8) (X : List UInt8) (h : signL [a, b, c] = true) : signT (a :: b :: c :: X) = some ⟨kSign, [a, b, c], 3⟩ := by
  unfold signT
  rw [if_pos (by simp [h])]
  simp
theorem sign3 (a b c : UInt8) (h : signL [a, b, c] = true) : a = 46 ∧ b = 46 ∧ c = 46 := by
  simpa [signL] using h
theorem sign3_no {a b c : UInt8} (h : ¬ (b = 46 ∧ c = 46)) : signL [a, b, c] = false := by
  rw [Bool.eq_false_iff]
  intro e
  exact h (sign3 a b c e).2
theorem sign2_end {a b : UInt8} {X : List UInt8} (h : endB (b :: X) = true) : signL [a, b] = false := by
  rcases endB_cons h with h | h | h | h | h | h <;> subst h <;> simp [signL]
theorem signT_eq (l : List UInt8) (x : List UInt8) : signT (l ++ x) = signT (l ++ x) := rfl
theorem signT1 (a : UInt8) : signT [a] = if signL [a] = true then some ⟨kSign, [a], 1⟩ else none := by
  unfold signT; simp
theorem signT2 (a b : UInt8) : signT [a, b] = if signL [a, b] = true then some ⟨kSign, [a, b], 2⟩ else if signL [a] = true then some ⟨kSign, [a], 1⟩ else none := by
  unfold signT; simp
theorem signT3 (a b c : UInt8) (X : List UInt8) : signT (a :: b :: c :: X) = if signL [a, b, c] = true then some ⟨kSign, [a, b, c], 3⟩ else if signL [a, b] = true then some ⟨kSign, [a, b], 2⟩ else if signL [a] = true then some ⟨kSign, [a], 1⟩ else none := by
  unfold signT; simp
theorem end_ne46 {b : UInt8} {X : List UInt8} (h : endB (b :: X) = true) : b ≠ 46 := by
  rcases endB_cons h with h | h | h | h | h | h <;> subst h <;> decide
/-- a sign of one byte -/
theorem sign_one (a : UInt8) (h1 : signL [a] = true) (X : List UInt8) (hX : (X = [] ∨ ∃ b X', X = b :: X' ∧ signL [a, b] = false ∧ (X' = [] ∨ ∃ c X'', X' = c :: X'' ∧ signL [a, b, c] = false))) :
    signT (a :: X) = some ⟨kSign, [a], 1⟩ := by
  rcases hX with rfl | ⟨b, X', rfl, h2, rfl | ⟨c, X'', rfl, h3⟩⟩
  · rw [signT1, if_pos h1]
  · rw [signT2, if_neg (by simp [h2]), if_pos h1]
  · rw [signT3, if_neg (by simp [h3]), if_neg (by simp [h2]), if_pos h1]
theorem sign_two (a b : UInt8) (h1 : signL [a, b] = true) (X : List UInt8) (hX : (X = [] ∨ ∃ c X', X = c :: X' ∧ signL [a, b, c] = false)) :
    signT (a :: b :: X) = some ⟨kSign, [a, b], 2⟩ := by
  rcases hX with rfl | ⟨c, X', rfl, h3⟩
  · rw [signT2, if_pos h1]
  · rw [signT3, if_neg (by simp [h3]), if_pos h1]
theorem signT_inv {l : List UInt8} {r : Rd} (h : signT l = some r) :
    (∃ a b c X, l = a :: b :: c :: X ∧ signL [a, b, c] = true ∧ r = ⟨kSign, [a, b, c], 3⟩)
    ∨ (∃ a b X, l = a :: b :: X ∧ signL [a, b] = true ∧ r = ⟨kSign, [a, b], 2⟩ ∧ (X = [] ∨ ∃ c X', X = c :: X' ∧ signL [a, b, c] = false))
    ∨ (∃ a X, l = a :: X ∧ signL [a] = true ∧ r = ⟨kSign, [a], 1⟩ ∧ (X = [] ∨ ∃ b X', X = b :: X' ∧ signL [a, b] = false ∧ (X' = [] ∨ ∃ c X'', X' = c :: X'' ∧ signL [a, b, c] = false))) := by
  match l, h with
  | [], h => simp [signT] at h
  | [a], h =>
    rw [signT1] at h
    split at h
    · rename_i q; cases h
      exact .inr (.inr ⟨a, [], rfl, q, rfl, .inl rfl⟩)
    · cases h
  | [a, b], h =>
    rw [signT2] at h
    split at h
    · rename_i q; cases h
      exact .inr (.inl ⟨a, b, [], rfl, q, rfl, .inl rfl⟩)
    · rename_i q
      split at h
      · rename_i q1; cases h
        exact .inr (.inr ⟨a, [b], rfl, q1, rfl, .inr ⟨b, [], rfl, by simpa using q, .inl rfl⟩⟩)
      · cases h
  | a :: b :: c :: X, h =>
    rw [signT3] at h
    split at h
    · rename_i q; cases h
      exact .inl ⟨a, b, c, X, rfl, q, rfl⟩
    · rename_i q
      split at h
      · rename_i q1; cases h
        exact .inr (.inl ⟨a, b, c :: X, rfl, q1, rfl, .inr ⟨c, X, rfl, by simpa using q⟩⟩)
      · rename_i q1
        split at h
        · rename_i q2; cases h
          exact .inr (.inr ⟨a, b :: c :: X, rfl, q2, rfl, .inr ⟨b, c :: X, rfl, by simpa using q1, .inr ⟨c, X, rfl, by simpa using q⟩⟩⟩)
        · cases h
theorem signT_follow {l : List UInt8} {r : Rd} (h : signT l = some r) (X : List UInt8) (hf : follow (l.drop r.size) X) : signT (l.take r.size ++ X) = some r := by
  rcases signT_inv h with ⟨a, b, c, Y, rfl, h3, rfl⟩ | ⟨a, b, Y, rfl, h2, rfl, hY⟩ | ⟨a, Y, rfl, h1, rfl, hY⟩
  · exact signT_three a b c X h3
  · refine sign_two a b h2 X ?_
    rcases hf with he | ⟨c, Y', X', hYc, rfl, _⟩
    · rcases X with _ | ⟨c, X⟩
      · left; rfl
      · right; exact ⟨c, X, rfl, sign3_no (fun q => end_ne46 he q.2)⟩
    · right
      simp only [List.drop_succ_cons, List.drop_zero] at hYc
      refine ⟨c, X', rfl, ?_⟩
      rcases hY with e | ⟨c', X'', e, h3⟩
      · rw [e] at hYc; cases hYc
      · rw [e] at hYc; cases hYc; exact h3
  · refine sign_one a h1 X ?_
    rcases hf with he | ⟨b, Y', X', hYb, rfl, hf'⟩
    · rcases X with _ | ⟨b, X⟩
      · left; rfl
      · right
        refine ⟨b, X, rfl, sign2_end he, ?_⟩
        rcases X with _ | ⟨c, X⟩
        · left; rfl
        · right; exact ⟨c, X, rfl, sign3_no (fun q => end_ne46 he q.1)⟩
    · right
      simp only [List.drop_succ_cons, List.drop_zero] at hYb
      rcases hY with e | ⟨b', Z, e, h2, h3⟩
      · rw [e] at hYb; cases hYb
      · rw [e] at hYb; cases hYb
        refine ⟨b, X', rfl, h2, ?_⟩
        rcases hf' with he | ⟨c, Y'', X'', rfl, rfl⟩
        · rcases X' with _ | ⟨c, X'⟩
          · left; rfl
          · right; exact ⟨c, X', rfl, sign3_no (fun q => end_ne46 he q.2)⟩
        · right
          refine ⟨c, X'', rfl, ?_⟩
          rcases h3 with e | ⟨c', X3, e, h3⟩
          · cases e
          · cases e; exact h3
theorem sign_tilde {a b : UInt8} (h : a = 126) : signL [a, b] = false := by subst h; simp [signL]
theorem nextD_end {X : List UInt8} (h : endB X = true) : nextD X = false := by
  rcases X with _ | ⟨c, X⟩
  · rfl
  · exact end_not_di h
theorem charT_local {l : List UInt8} {r : Rd} (h : charT l = some r) (X : List UInt8) : charT (l.take (r.size - 1) ++ X) = some r := by
  have one : ∀ (c : UInt8) (Y : List UInt8), ¬ (c == 92) = true → (decide (33 ≤ (c.toNat : Int)) && decide ((c.toNat : Int) ≤ 126)) = true → charT (c :: Y) = some ⟨kChar, [c], 2⟩ := by
    intro c Y h1 h2
    rcases Y with _ | ⟨y, Y⟩ <;> simp only [charT, if_neg h1, if_pos h2]
  match l, h with
  | [], h => cases h
  | [c], h =>
    simp only [charT] at h
    split at h
    · cases h
    · rename_i q; split at h
      · rename_i q2; cases h; exact one c X q q2
      · cases h
  | c :: d :: Y, h =>
    simp only [charT] at h
    split at h
    · rename_i q
      split at h
      · rename_i q1; cases h
        simp only [Nat.add_one_sub_one, List.take_succ_cons, List.take_zero, List.cons_append, List.nil_append, charT, if_pos q, if_pos q1]
      · rename_i q1
        split at h
        · rename_i q2; cases h
          simp only [Nat.add_one_sub_one, List.take_succ_cons, List.take_zero, List.cons_append, List.nil_append, charT, if_pos q, if_neg q1, if_pos q2]
        · rename_i q2
          split at h
          · rename_i q3; cases h
            simp only [Nat.add_one_sub_one, List.take_succ_cons, List.take_zero, List.cons_append, List.nil_append, charT, if_pos q, if_neg q1, if_neg q2, if_pos q3]
          · cases h
    · rename_i q; split at h
      · rename_i q2; cases h; exact one c X q q2
      · cases h

theorem readT_follow {l : List UInt8} {r : Rd} (h : readT l = some r) (X : List UInt8) (hf : follow (l.drop r.size) X) : readT (l.take r.size ++ X) = some r := by
  have hs := readT_size h
  match l, h with
  | [], h => cases h
  | c :: r0, h =>
    obtain ⟨n, hn⟩ : ∃ n, r.size = n + 1 := ⟨r.size - 1, by omega⟩
    have hT : (c :: r0).take r.size ++ X = c :: (r0.take n ++ X) := by rw [hn]; rfl
    rw [readT_cons] at h
    rw [hT]
    generalize hZ : r0.take n ++ X = Z at hT ⊢
    rw [readT_cons]
    have hD : follow (r0.drop n) X := by rw [hn] at hf; exact hf
    by_cases q1 : (upB (c.toNat : Int) || loB (c.toNat : Int)) = true
    · rw [if_pos q1] at h ⊢
      unfold wordT at h ⊢
      simp only [] at h ⊢
      split at h
      · rename_i q
        cases h
        simp only [] at hn hT hf
        rw [← hT, tw_follow woU (fun c X => end_not_wo) (c :: r0) X hf, hT, if_pos q]
        rfl
      · cases h
    · rw [if_neg q1] at h ⊢
      by_cases q2 : diU c = true
      · rw [if_pos q2] at h ⊢
        unfold numT at h ⊢
        simp only [] at h ⊢
        split at h
        · rename_i q
          cases h
          simp only [] at hn hT hf
          rw [← hT, tw_follow diU (fun c X => end_not_di) (c :: r0) X hf, if_pos q]
        · cases h
      · rw [if_neg q2] at h ⊢
        by_cases q3 : (c == 126 && nextD r0) = true
        · rw [if_pos q3] at h
          simp only [Bool.and_eq_true, beq_iff_eq] at q3
          unfold minusT at h
          simp only [] at h
          split at h
          · rename_i q
            cases h
            simp only [] at hn
            have hn0 : n = 0 := by omega
            subst hn0
            simp only [List.take_zero, List.nil_append, List.drop_zero] at hD hZ
            subst hZ
            rcases hD with he | ⟨d, Y', X', hY, rfl, hf'⟩
            · rw [if_neg (by rw [nextD_end he, Bool.and_false]; decide)]
              obtain ⟨rfl, _⟩ := q3
              rw [if_neg (by decide), if_neg (by decide), if_neg (by decide)]
              refine sign_one 126 (by decide) X ?_
              rcases X with _ | ⟨b, X⟩
              · left; rfl
              · right
                refine ⟨b, X, rfl, sign2_end he, ?_⟩
                rcases X with _ | ⟨c', X⟩
                · left; rfl
                · right; exact ⟨c', X, rfl, sign3_no (fun q => end_ne46 he q.1)⟩
            · have hq : r0.takeWhile diU = [48] := by simpa using q
              subst hY
              have hd : diU d = true := by
                rw [List.takeWhile_cons] at hq
                split at hq
                · assumption
                · cases hq
              rw [List.takeWhile_cons, if_pos hd] at hq
              simp only [List.cons.injEq] at hq
              obtain ⟨rfl, hq⟩ := hq
              have hn : (c == 126 && nextD (48 :: X')) = true := by
                simp only [q3.1, nextD, hd, beq_self_eq_true, Bool.and_self]
              rw [if_pos hn]
              unfold minusT
              simp only []
              have : (48 :: X').takeWhile diU = [48] := by
                refine tw_append diU [48] X' (by decide) ?_
                rcases X' with _ | ⟨e, X'⟩
                · left; rfl
                · right
                  refine ⟨e, X', rfl, ?_⟩
                  rcases hf' with he | ⟨d', Y'', X'', rfl, hX⟩
                  · exact end_not_di he
                  · cases hX
                    rw [List.takeWhile_cons] at hq
                    split at hq
                    · cases hq
                    · simpa using ‹¬ diU e = true›
              rw [this]
              simp
          · rename_i q
            split at h
            · rename_i q4
              cases h
              simp only [] at hn
              have hn' : n = (r0.takeWhile diU).length := by omega
              have ht : Z.takeWhile diU = r0.takeWhile diU := by
                rw [hn'] at hD hZ
                rw [← hZ]
                exact tw_follow diU (fun c X => end_not_di) r0 X hD
              have hne : r0.takeWhile diU ≠ [] := by
                intro e; rw [e] at q4; exact absurd q4 (by decide)
              have hx : nextD Z = true := by
                rcases hl : Z with _ | ⟨e, Z⟩
                · rw [hl] at ht; exact absurd ht.symm hne
                · rw [hl, List.takeWhile_cons] at ht
                  split at ht
                  · assumption
                  · exact absurd ht.symm hne
              rw [if_pos (by simp [q3.1, hx])]
              unfold minusT
              simp only []
              rw [ht, if_neg q, if_pos q4]
            · cases h
        · rw [if_neg q3] at h
          have q3' : ¬ (c == 126 && nextD Z) = true ∨ False := by
            left
            intro e
            simp only [Bool.and_eq_true, beq_iff_eq] at e
            obtain ⟨rfl, e⟩ := e
            rw [if_neg (by decide), if_neg (by decide), if_neg (by decide)] at h
            rcases signT_inv h with ⟨a, b, c, Y, hl, h3, rfl⟩ | ⟨a, b, Y, hl, h2, rfl, hY⟩ | ⟨a, Y, hl, h1, rfl, hY⟩
            · cases hl; exact absurd h3 (by simp [signL])
            · cases hl; rw [sign_tilde rfl] at h2; cases h2
            · simp only [] at hn
              have hn0 : n = 0 := by omega
              subst hn0
              simp only [List.take_zero, List.nil_append, List.drop_zero] at hD hZ
              subst hZ
              rcases hD with he | ⟨d, Y', X', rfl, rfl, hf'⟩
              · rw [nextD_end he] at e; cases e
              · simp only [nextD] at e
                simp only [nextD, e] at q3
                exact q3 rfl
          rw [if_neg (q3'.elim id False.elim)]
          by_cases q5 : (c == 39) = true
          · rw [if_pos q5] at h ⊢
            unfold quoteT at h ⊢
            rcases hq : qpar 39 r0 with _ | ⟨t, m⟩
            · rw [hq] at h; cases h
            · rw [hq] at h
              simp only [] at h
              split at h
              · rename_i q
                cases h
                simp only [] at hn
                have : n = m := by omega
                subst this
                rw [← hZ, qpar_local 39 _ r0 (t, n) X (Nat.le_refl _) hq]
                simp only []
                rw [if_pos q]
              · cases h
          · rw [if_neg q5] at h ⊢
            by_cases q6 : (c == 34) = true
            · rw [if_pos q6] at h ⊢
              unfold quoteT at h ⊢
              rcases hq : qpar 34 r0 with _ | ⟨t, m⟩
              · rw [hq] at h; cases h
              · rw [hq] at h
                simp only [] at h
                split at h
                · rename_i q
                  cases h
                  simp only [] at hn
                  have : n = m := by omega
                  subst this
                  rw [← hZ, qpar_local 34 _ r0 (t, n) X (Nat.le_refl _) hq]
                  simp only []
                  rw [if_pos q]
                · cases h
            · rw [if_neg q6] at h ⊢
              by_cases q7 : (c == 38) = true
              · rw [if_pos q7] at h ⊢
                have := charT_local h X
                rwa [show r.size - 1 = n by omega, hZ] at this
              · rw [if_neg q7] at h ⊢
                rw [← hT]
                exact signT_follow h X hf
end Go.Proofs.Ytjiihfdbdbhhaaa.T
