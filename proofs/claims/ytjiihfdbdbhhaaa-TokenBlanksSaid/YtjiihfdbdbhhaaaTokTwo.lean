/-
  Plain words: the tokens of two sources with a line's end between them; the tokens of a source with gaps laid between its tokens. Nothing of the program stands here.
-/
import Derived.Test.YtjiihfdbdbhhaaaTokGap
namespace Go.Proofs.Ytjiihfdbdbhhaaa.T

def shiftTk (n : Nat) (t : Tk) : Tk := ⟨t.kind, t.text, t.at_ + n⟩
theorem scan_shift (P t : List UInt8) : ∀ (f k : Nat), t.length < f + k → scanN (P ++ t) (P.length + k) = ((scanN t k).1.map (shiftTk P.length), (scanN t k).2.map (· + P.length)) := by
  intro f
  induction f with
  | zero =>
    intro k h
    rw [scanN_end (by simp; omega), scanN_end (by omega)]; rfl
  | succ f ih =>
    intro k h
    by_cases hk : k < t.length
    · have hd : (P ++ t).drop (P.length + k) = t.drop k := by simp [List.drop_append]
      rcases hr : readT (t.drop k) with _ | r
      · rw [scanN_bad (by simp; omega) (by rw [hd]; exact hr), scanN_bad hk hr]
        simp [Nat.add_comm]
      · have hs := readT_size hr
        rw [scanN_tok (by simp; omega) (by rw [hd]; exact hr), scanN_tok hk hr]
        have hd2 : (P ++ t).drop (P.length + k + r.size) = t.drop (k + r.size) := by rw [Nat.add_assoc]; simp [List.drop_append]
        rw [hd2, show P.length + k + r.size + skipN (t.drop (k + r.size)) = P.length + (k + r.size + skipN (t.drop (k + r.size))) by omega, ih _ (by omega)]
        simp [shiftTk, Nat.add_comm]
    · rw [scanN_end (by simp; omega), scanN_end hk]; rfl

theorem scan_read {L : List UInt8} {k : Nat} (hk : k < L.length) (h : (scanN L k).2 = none) : ∃ r, readT (L.drop k) = some r := by
  rcases hr : readT (L.drop k) with _ | r
  · rw [scanN_bad hk hr] at h; cases h
  · exact ⟨r, rfl⟩
theorem skip_two (D t : List UInt8) : (skipN D < D.length → (∃ r, readT (D.drop (skipN D)) = some r) → skipN (D ++ 10 :: t) = skipN D) ∧ (¬ skipN D < D.length → skipN (D ++ 10 :: t) = D.length + 1 + skipN t) := by
  constructor
  · rintro h ⟨r, hr⟩
    have e : D ++ 10 :: t = D.take (skipN D) ++ (D.drop (skipN D) ++ 10 :: t) := by rw [← List.append_assoc, List.take_append_drop]
    have hs := readT_size hr
    have h2 := readT_follow hr ((D.drop (skipN D)).drop r.size ++ 10 :: t) (follow_app _ _)
    rw [← List.append_assoc, List.take_append_drop] at h2
    rw [e, take_gap _ D (Nat.le_refl _) h, skipN_zero (read_nogap h2)]
    simp; omega
  · intro h
    have hle := skipN_le D
    have e : D ++ 10 :: t = (D ++ [10]) ++ t := by simp
    rw [e, end_gap _ D (Nat.le_refl _) (by omega)]
    simp
theorem scan_two_at (s t : List UInt8) : ∀ (f k : Nat), s.length < f + k → k < s.length → (scanN s k).2 = none →
    scanN (s ++ 10 :: t) k = ((scanN s k).1 ++ (scanN t (skipN t)).1.map (shiftTk (s.length + 1)), (scanN t (skipN t)).2.map (· + (s.length + 1))) := by
  intro f
  induction f with
  | zero => intro k h1 h2; omega
  | succ f ih =>
    intro k h1 hk hn
    obtain ⟨r, hr⟩ := scan_read hk hn
    have hs := readT_size hr
    simp only [List.length_drop] at hs
    rw [scanN_tok hk hr] at hn ⊢
    simp only [] at hn
    have hdk : (s ++ 10 :: t).drop k = s.drop k ++ 10 :: t := List.drop_append_of_le_length (by omega)
    have hdr : (s ++ 10 :: t).drop (k + r.size) = s.drop (k + r.size) ++ 10 :: t := List.drop_append_of_le_length (by omega)
    have h2 := readT_follow hr ((s.drop k).drop r.size ++ 10 :: t) (follow_app _ _)
    rw [← List.append_assoc, List.take_append_drop, ← hdk] at h2
    rw [scanN_tok (by simp; omega) h2, hdr]
    have hle := skipN_le (s.drop (k + r.size))
    obtain ⟨t1, t2⟩ := skip_two (s.drop (k + r.size)) t
    generalize hD : s.drop (k + r.size) = D at *
    have hDl : D.length = s.length - (k + r.size) := by rw [← hD]; simp
    by_cases hlt : skipN D < D.length
    · have hk2 : k + r.size + skipN D < s.length := by omega
      have hr2 := scan_read hk2 hn
      rw [← List.drop_drop, hD] at hr2
      rw [t1 hlt hr2, ih _ (by omega) hk2 hn]
      rfl
    · rw [t2 hlt, scanN_end (L := s) (by omega)]
      have e : s ++ 10 :: t = (s ++ [10]) ++ t := by simp
      have e2 : k + r.size + (D.length + 1 + skipN t) = (s ++ [10]).length + skipN t := by simp; omega
      rw [e, e2, scan_shift (s ++ [10]) t (t.length + 1) (skipN t) (by omega)]
      simp
/-- two sources, with a line's end between them -/
theorem scan_two (s t : List UInt8) (h : (scanN s (skipN s)).2 = none) :
    scanN (s ++ 10 :: t) (skipN (s ++ 10 :: t)) = ((scanN s (skipN s)).1 ++ (scanN t (skipN t)).1.map (shiftTk (s.length + 1)), (scanN t (skipN t)).2.map (· + (s.length + 1))) := by
  obtain ⟨t1, t2⟩ := skip_two s t
  by_cases hlt : skipN s < s.length
  · have hr := scan_read hlt h
    rw [t1 hlt hr]
    exact scan_two_at s t (s.length + 1) _ (by omega) hlt h
  · rw [t2 hlt, scanN_end (L := s) hlt]
    have e : s ++ 10 :: t = (s ++ [10]) ++ t := by simp
    have e2 : s.length + 1 + skipN t = (s ++ [10]).length + skipN t := by simp
    rw [e, e2, scan_shift (s ++ [10]) t (t.length + 1) (skipN t) (by omega)]
    simp

/-! gaps between tokens -/
def insP (E : Nat → List UInt8) (L : List UInt8) : Nat → Nat → List Tk → List UInt8
  | _, k, [] => L.drop k
  | i, k, t :: ts => (L.drop k).take (t.at_ - k) ++ E i ++ insP E L (i + 1) t.at_ ts
def kt (t : Tk) : List UInt8 × List UInt8 := (t.kind, t.text)
def follow1 (Y X : List UInt8) : Prop := endB X = true ∨ ∃ d Y'' X'', Y = d :: Y'' ∧ X = d :: X''
theorem follow.one {Y X : List UInt8} (h : follow Y X) : follow1 Y X := by
  rcases h with h | ⟨c, Y', X', h1, h2, _⟩
  · exact .inl h
  · exact .inr ⟨c, Y', X', h1, h2⟩
def GapE (E : Nat → List UInt8) : Prop := ∀ i, Gap (E i) ∧ (E i = [] ∨ ∃ c r, E i = c :: r ∧ ∀ X, endB (c :: X) = true)
/-- the head of a token's bytes and of what follows them -/
theorem head_follow {l R : List UInt8} {n : Nat} (hn : 1 ≤ n) (hl : n ≤ l.length) (hf : follow (l.drop n) R) : ∃ c Y X, l = c :: Y ∧ l.take n ++ R = c :: X ∧ follow1 Y X := by
  match l, hl with
  | [], hl => simp at hl; omega
  | c :: Y, hl =>
    obtain ⟨m, rfl⟩ : ∃ m, n = m + 1 := ⟨n - 1, by omega⟩
    refine ⟨c, Y, Y.take m ++ R, rfl, rfl, ?_⟩
    rcases Nat.eq_zero_or_pos m with rfl | hm
    · exact hf.one
    · match Y, hl with
      | [], hl => simp at hl; omega
      | d :: Y, hl =>
        obtain ⟨j, rfl⟩ : ∃ j, m = j + 1 := ⟨m - 1, by omega⟩
        exact .inr ⟨d, Y, Y.take j ++ R, rfl, rfl⟩
theorem scan_ins_at (E : Nat → List UInt8) (hE : GapE E) (L Z : List UInt8) (hZ : skipN Z = Z.length) : ∀ (ts : List Tk) (i k : Nat) (t : Tk), k < L.length → scanN L k = (t :: ts, none) →
    (∃ r, readT (insP E L i k ts ++ 10 :: Z) = some r) ∧ (∃ c Y X, L.drop k = c :: Y ∧ insP E L i k ts ++ 10 :: Z = c :: X ∧ follow1 Y X) ∧
    ∀ (N : List UInt8) (p : Nat), N.drop p = insP E L i k ts ++ 10 :: Z → (scanN N p).2 = none ∧ (scanN N p).1.map kt = (t :: ts).map kt := by
  intro ts
  induction ts with
  | nil =>
    intro i k t hk hsc
    obtain ⟨r, hr⟩ := scan_read hk (by rw [hsc])
    have hs := readT_size hr
    simp only [List.length_drop] at hs
    rw [scanN_tok hk hr] at hsc
    simp only [Prod.mk.injEq, List.cons.injEq] at hsc
    obtain ⟨⟨rfl, he1⟩, he2⟩ := hsc
    have hend : ¬ skipN (L.drop (k + r.size)) < (L.drop (k + r.size)).length := by
      intro hlt
      simp only [List.length_drop] at hlt
      obtain ⟨r2, hr2⟩ := scan_read (L := L) (k := k + r.size + skipN (L.drop (k + r.size))) (by omega) he2
      rw [scanN_tok (by omega) hr2] at he1
      cases he1
    have h2 := readT_follow hr ((L.drop k).drop r.size ++ 10 :: Z) (follow_app _ _)
    have hX : insP E L i k [] ++ 10 :: Z = (L.drop k).take r.size ++ ((L.drop k).drop r.size ++ 10 :: Z) := by
      rw [← List.append_assoc, List.take_append_drop]; rfl
    rw [hX]
    refine ⟨⟨r, h2⟩, head_follow hs.1 (by simp; omega) (follow_app _ _), fun N p hN => ?_⟩
    have hp : p < N.length := by
      apply Nat.lt_of_not_ge
      intro hge
      rw [List.drop_eq_nil_of_le hge] at hN
      have := congrArg List.length hN
      simp at this
    have hrl : ((L.drop k).take r.size).length = r.size := by simp; omega
    have hN2 : N.drop (p + r.size) = (L.drop (k + r.size)) ++ 10 :: Z := by
      rw [← List.drop_drop, hN, List.drop_append, hrl]
      simp [List.drop_drop]
    rw [scanN_tok hp (by rw [hN]; exact h2), hN2, (skip_two _ Z).2 hend, hZ]
    have hNl := congrArg List.length hN2
    simp at hNl
    rw [scanN_end (by simp; omega)]
    exact ⟨rfl, rfl⟩
  | cons t1 ts ih =>
    intro i k t hk hsc
    obtain ⟨r, hr⟩ := scan_read hk (by rw [hsc])
    have hs := readT_size hr
    simp only [List.length_drop] at hs
    rw [scanN_tok hk hr] at hsc
    simp only [Prod.mk.injEq, List.cons.injEq] at hsc
    obtain ⟨⟨rfl, he1⟩, he2⟩ := hsc
    generalize hD : L.drop (k + r.size) = D at *
    have hDl : D.length = L.length - (k + r.size) := by rw [← hD]; simp
    generalize hg : skipN D = g at *
    have hk2 : k + r.size + g < L.length := by
      apply Nat.lt_of_not_ge
      intro hge
      rw [scanN_end (by omega)] at he1
      cases he1
    obtain ⟨r2, hr2⟩ := scan_read hk2 he2
    have hat : t1.at_ = k + r.size + g := by
      rw [scanN_tok hk2 hr2] at he1
      simp only [List.cons.injEq] at he1
      rw [← he1.1]
    obtain ⟨⟨r3, hr3⟩, ⟨c, Y, X, hc1, hc2, hc3⟩, hN3⟩ := ih (i + 1) (k + r.size + g) t1 hk2 (Prod.ext he1 he2)
    have hX : insP E L i k (t1 :: ts) ++ 10 :: Z = (L.drop k).take r.size ++ (D.take g ++ (E i ++ (insP E L (i + 1) (k + r.size + g) ts ++ 10 :: Z))) := by
      rw [insP, hat, show k + r.size + g - k = r.size + g by omega, List.take_add, List.drop_drop, hD]
      simp only [List.append_assoc]
    rw [hX]
    generalize hX2 : insP E L (i + 1) (k + r.size + g) ts ++ 10 :: Z = X2 at *
    have hf : follow ((L.drop k).drop r.size) (D.take g ++ (E i ++ X2)) := by
      rw [List.drop_drop, hD]
      rcases Nat.eq_zero_or_pos g with h0 | h0
      · subst h0
        rcases (hE i).2 with h' | ⟨c', r', h', he⟩
        · rw [h', List.take_zero, List.nil_append, List.nil_append]
          rw [Nat.add_zero, hD] at hc1
          exact .inr ⟨c, Y, X, hc1, hc2, hc3⟩
        · rw [h', List.take_zero, List.nil_append, List.cons_append]
          exact .inl (he _)
      · left
        rw [← hg] at h0 ⊢
        exact skip_head (by omega) _
    have h2 := readT_follow hr _ hf
    refine ⟨⟨r, h2⟩, head_follow hs.1 (by simp; omega) hf, fun N p hN => ?_⟩
    have hp : p < N.length := by
      apply Nat.lt_of_not_ge
      intro hge
      rw [List.drop_eq_nil_of_le hge, hc2] at hN
      have := congrArg List.length hN
      simp at this
    have hrl : ((L.drop k).take r.size).length = r.size := by simp; omega
    have hN2 : N.drop (p + r.size) = D.take g ++ (E i ++ X2) := by
      rw [← List.drop_drop, hN, List.drop_append, hrl]
      simp
    have hG : Gap (D.take g) := by rw [← hg]; exact take_gap _ D (Nat.le_refl _) (by omega)
    have hgl : (D.take g).length = g := by simp; omega
    have hsk : skipN (D.take g ++ (E i ++ X2)) = g + (E i).length := by
      rw [hG, (hE i).1, skipN_zero (read_nogap hr3), hgl]; rfl
    rw [scanN_tok hp (by rw [hN]; exact h2), hN2, hsk]
    have hN4 : N.drop (p + r.size + (g + (E i).length)) = X2 := by
      rw [← List.drop_drop, hN2, ← List.drop_drop]
      have e1 : (D.take g ++ (E i ++ X2)).drop g = E i ++ X2 := List.drop_left' hgl
      rw [e1, List.drop_left]
    obtain ⟨q1, q2⟩ := hN3 N _ hN4
    refine ⟨q1, ?_⟩
    simp only [List.map_cons] at q2 ⊢
    rw [q2]
    rfl
/-- gaps laid ahead of each token, and behind the last line -/
theorem scan_ins (E : Nat → List UInt8) (hE : GapE E) (L Z : List UInt8) (hZ : skipN Z = Z.length) (h : (scanN L (skipN L)).2 = none) :
    (scanN (insP E L 0 0 (scanN L (skipN L)).1 ++ 10 :: Z) (skipN (insP E L 0 0 (scanN L (skipN L)).1 ++ 10 :: Z))).2 = none ∧
    (scanN (insP E L 0 0 (scanN L (skipN L)).1 ++ 10 :: Z) (skipN (insP E L 0 0 (scanN L (skipN L)).1 ++ 10 :: Z))).1.map kt = (scanN L (skipN L)).1.map kt := by
  by_cases hlt : skipN L < L.length
  · obtain ⟨r, hr⟩ := scan_read hlt h
    have hsc := scanN_tok hlt hr
    rcases hts : (scanN L (skipN L)).1 with _ | ⟨t, ts⟩
    · rw [hsc] at hts; cases hts
    · have hat : t.at_ = skipN L := by
        rw [hsc] at hts
        simp only [List.cons.injEq] at hts
        rw [← hts.1]
      obtain ⟨⟨r3, hr3⟩, _, hN⟩ := scan_ins_at E hE L Z hZ ts 1 (skipN L) t hlt (Prod.ext hts h)
      have e : insP E L 0 0 (t :: ts) ++ 10 :: Z = L.take (skipN L) ++ (E 0 ++ (insP E L 1 (skipN L) ts ++ 10 :: Z)) := by
        rw [insP, hat]; simp
      have hG : Gap (L.take (skipN L)) := take_gap _ L (Nat.le_refl _) hlt
      have hgl : (L.take (skipN L)).length = skipN L := by simp; omega
      rw [e]
      generalize insP E L 1 (skipN L) ts ++ 10 :: Z = X2 at *
      rw [hG, (hE 0).1, skipN_zero (read_nogap hr3)]
      refine hN _ _ ?_
      rw [← List.drop_drop, List.drop_left, Nat.add_zero, List.drop_left]
  · have hsc := scanN_end hlt
    rw [hsc]
    have e : insP E L 0 0 [] ++ 10 :: Z = L ++ 10 :: Z := rfl
    simp only [e]
    rw [(skip_two L Z).2 hlt, hZ, scanN_end (by simp; omega)]
    exact ⟨rfl, rfl⟩
/-- places -/
theorem scan_at (L : List UInt8) : ∀ (f k : Nat), L.length < f + k → ∀ t ∈ (scanN L k).1, k ≤ t.at_ ∧ t.at_ < L.length := by
  intro f
  induction f with
  | zero =>
    intro k h t ht
    rw [scanN_end (by omega)] at ht; cases ht
  | succ f ih =>
    intro k h t ht
    by_cases hk : k < L.length
    · rcases hr : readT (L.drop k) with _ | r
      · rw [scanN_bad hk hr] at ht; cases ht
      · have hs := readT_size hr
        rw [scanN_tok hk hr] at ht
        simp only [List.mem_cons] at ht
        rcases ht with rfl | ht
        · exact ⟨Nat.le_refl _, hk⟩
        · have := ih _ (by omega) t ht
          omega
    · rw [scanN_end hk] at ht; cases ht
theorem scan_mono (L : List UInt8) : ∀ (f k : Nat), L.length < f + k → ∀ j (h : j + 1 < (scanN L k).1.length), (scanN L k).1[j].at_ ≤ (scanN L k).1[j + 1].at_ := by
  intro f
  induction f with
  | zero =>
    intro k h j hj
    rw [scanN_end (by omega)] at hj; cases hj
  | succ f ih =>
    intro k h j hj
    by_cases hk : k < L.length
    · rcases hr : readT (L.drop k) with _ | r
      · rw [scanN_bad hk hr] at hj; cases hj
      · have hs := readT_size hr
        have hsc := scanN_tok hk hr
        simp only [hsc, List.length_cons] at hj ⊢
        match j, hj with
        | 0, hj =>
          simp only [List.getElem_cons_zero, Nat.zero_add, List.getElem_cons_succ]
          have := scan_at L (L.length + 1) _ (by omega) _ (List.getElem_mem (l := (scanN L (k + r.size + skipN (L.drop (k + r.size)))).1) (n := 0) (by omega))
          omega
        | j + 1, hj =>
          simp only [List.getElem_cons_succ]
          exact ih _ (by omega) j (by omega)
    · rw [scanN_end hk] at hj; cases hj
theorem scan_bad_lt (L : List UInt8) : ∀ (f k : Nat), L.length < f + k → ∀ b, (scanN L k).2 = some b → b < L.length := by
  intro f
  induction f with
  | zero =>
    intro k h b hb
    rw [scanN_end (by omega)] at hb; cases hb
  | succ f ih =>
    intro k h b hb
    by_cases hk : k < L.length
    · rcases hr : readT (L.drop k) with _ | r
      · rw [scanN_bad hk hr] at hb; cases hb; exact hk
      · have hs := readT_size hr
        rw [scanN_tok hk hr] at hb
        exact ih _ (by omega) b hb
    · rw [scanN_end hk] at hb; cases hb
end Go.Proofs.Ytjiihfdbdbhhaaa.T
