/-
  Plain facts: the source of a valid token, with nothing or a space behind it, is read as that token.
-/
import Derived.Test.YtjiihfdbdbhhaaaTokZ
namespace Go.Proofs.Ytjiihfdbdbhhaaa
open Go.RowKit T

def Sp0 (rest : List UInt8) : Prop := rest = [] ∨ ∃ r, rest = 32 :: r

theorem tw_src {p : UInt8 → Bool} {l rest : List UInt8} (hl : l.all p = true) (hp : p 32 = false) (hr : Sp0 rest) : (l ++ rest).takeWhile p = l := by
  induction l with
  | nil =>
    rcases hr with rfl | ⟨r, rfl⟩
    · rfl
    · simp [hp]
  | cons a l ih =>
    simp only [List.all_cons, Bool.and_eq_true] at hl
    rw [List.cons_append, List.takeWhile_cons, if_pos hl.1, ih hl.2]
theorem gap0 {c : UInt8} {r : List UInt8} (h1 : blU c = false) (h2 : c ≠ 37) (h3 : c ≠ 47) : gapN (c :: r) = 0 := by
  rw [gapN, if_neg (by rw [h1]; decide), if_neg (by simpa using h2)]
  unfold nestedN
  cases r with
  | nil => rfl
  | cons d r => simp [h3]
theorem qpar_enc (m : UInt8) (hm : m = 39 ∨ m = 34) (rest : List UInt8) : ∀ l : List UInt8, l.all meU = true → qpar m (l.flatMap (esc m) ++ m :: rest) = some (l, (l.flatMap (esc m)).length + 1) := by
  have hm1 : m ≠ 92 := by rcases hm with rfl | rfl <;> decide
  have hm2 : m ≠ 110 := by rcases hm with rfl | rfl <;> decide
  intro l
  induction l with
  | nil => intro _; exact qpar_mark m m rest (by simp)
  | cons a l ih =>
    intro hl
    simp only [List.all_cons, Bool.and_eq_true] at hl
    have ih := ih hl.2
    simp only [List.flatMap_cons]
    obtain ⟨d, r, hd⟩ : ∃ d r, l.flatMap (esc m) ++ m :: rest = d :: r := by
      rcases l.flatMap (esc m) with _ | ⟨d, r⟩
      · exact ⟨m, rest, rfl⟩
      · exact ⟨d, r ++ m :: rest, rfl⟩
    by_cases h1 : (a == m || a == 92) = true
    · rw [show esc m a = [92, a] by unfold esc; rw [if_pos h1]]
      simp only [List.cons_append, List.nil_append]
      rw [qpar, if_neg (by simpa using fun e : (92 : UInt8) = m => hm1 e.symm), if_pos (by rfl), if_pos h1, ih]
      rfl
    · by_cases h2 : (a == 10) = true
      · rw [show esc m a = [92, 110] by unfold esc; rw [if_neg h1, if_pos h2]]
        simp only [List.cons_append, List.nil_append]
        rw [qpar, if_neg (by simpa using fun e : (92 : UInt8) = m => hm1 e.symm), if_pos (by rfl), if_neg (by simpa using fun e : (110 : UInt8) = m => hm2 e.symm), if_pos (by rfl), ih]
        rw [eq_of_beq h2]; rfl
      · rw [show esc m a = [a] by unfold esc; rw [if_neg h1, if_neg h2]]
        simp only [List.cons_append, List.nil_append]
        simp only [Bool.or_eq_true, not_or, Bool.not_eq_true] at h1
        have hp : prB (a.toNat : Int) = true := by
          have := hl.1
          unfold meU at this
          rcases q : ((a.toNat : Int) == 10) with _ | _
          · rw [q] at this; simpa using this
          · exact absurd (beq_b _ 10 10 rfl _ q) h2
        rw [hd, qpar, if_neg (by rw [h1.1]; decide), if_neg (by rw [h1.2]; decide), if_pos hp, ← hd, ih]
        rfl
theorem list_cons {s : ByteArray} (h : 0 < s.size) : ∃ r, s.data.toList = s[0] :: r := ⟨_, cons_of h⟩
theorem hd_cons {s : ByteArray} {c : UInt8} {r : List UInt8} (h : s.data.toList = c :: r) : hd s = (c.toNat : Int) := by unfold hd; rw [h]; rfl
theorem head_letter {c : UInt8} (h : (upB (c.toNat : Int) || loB (c.toNat : Int)) = true) : blU c = false ∧ c ≠ 37 ∧ c ≠ 47 := by
  have h' : (65 ≤ (c.toNat : Int) ∧ (c.toNat : Int) ≤ 90) ∨ (97 ≤ (c.toNat : Int) ∧ (c.toNat : Int) ≤ 122) := by
    simpa [upB, loB] using h
  refine ⟨?_, ?_, ?_⟩
  · unfold blU blB
    simp only [Bool.or_eq_false_iff, beq_eq_false_iff_ne]
    omega
  · rintro rfl; simp at h'
  · rintro rfl; simp at h'
theorem head_digit {c : UInt8} (h : diU c = true) : blU c = false ∧ c ≠ 37 ∧ c ≠ 47 ∧ (upB (c.toNat : Int) || loB (c.toNat : Int)) = false := by
  have h' : 48 ≤ (c.toNat : Int) ∧ (c.toNat : Int) ≤ 57 := by simpa [diU, diB] using h
  refine ⟨?_, ?_, ?_, ?_⟩
  · unfold blU blB
    simp only [Bool.or_eq_false_iff, beq_eq_false_iff_ne]
    omega
  · rintro rfl; simp at h'
  · rintro rfl; simp at h'
  · unfold upB loB
    simp only [Bool.or_eq_false_iff, Bool.and_eq_false_iff, decide_eq_false_iff_not]
    omega
theorem wordT_src {l rest : List UInt8} (hl : l.all woU = true) (h60 : l.length ≤ 60) (hne : l ≠ []) (hr : Sp0 rest) :
    wordT (l ++ rest) = some ⟨if upB ((l.headD 0).toNat : Int) = true then kVar else if keyL l = true then kKey else kAtom, l, l.length⟩ := by
  unfold wordT
  rw [tw_src hl (by decide) hr]
  simp only []
  rw [if_pos h60]
  obtain ⟨a, l', rfl⟩ := List.exists_cons_of_ne_nil hne
  rfl
theorem numL_cons {l : List UInt8} (h : numL l = true) : ∃ c r, l = c :: r ∧ diU c = true ∧ l.all diU = true := by
  unfold numL at h
  simp only [Bool.and_eq_true, Bool.not_eq_true'] at h
  obtain ⟨⟨⟨h1, h2⟩, _⟩, _⟩ := h
  rcases l with _ | ⟨c, r⟩
  · simp at h2
  · refine ⟨c, r, rfl, ?_, h1⟩
    simp only [List.all_cons, Bool.and_eq_true] at h1
    exact h1.1
theorem keys_all : ∀ w ∈ keys, w.all woU = true ∧ w.length ≤ 60 ∧ w ≠ [] ∧ upB ((w.headD 0).toNat : Int) = false ∧ loB ((w.headD 0).toNat : Int) = true := by decide
theorem src_word {s : ByteArray} {rest : List UInt8} (hw : wordB s = true) (hl : (upB (hd s) || loB (hd s)) = true) (hr : Sp0 rest) :
    readT (s.data.toList ++ rest) = some ⟨if upB (hd s) = true then kVar else if keyL s.data.toList = true then kKey else kAtom, s.data.toList, s.data.toList.length⟩ ∧ gapN (s.data.toList ++ rest) = 0 := by
  have hp := wordB_pos hw
  obtain ⟨r, hc⟩ := list_cons hp
  have hh := hd_cons hc
  have h60 : s.data.toList.length ≤ 60 := by have := wordB_60 hw; simpa using this
  have hall : s.data.toList.all woU = true := by
    unfold wordB at hw
    simp only [Bool.and_eq_true] at hw
    exact hw.2
  have hne : s.data.toList ≠ [] := by rw [hc]; simp
  rw [hh] at hl ⊢
  obtain ⟨g1, g2, g3⟩ := head_letter hl
  have hT := wordT_src hall h60 hne hr
  refine ⟨?_, ?_⟩
  · have e : s.data.toList ++ rest = s[0] :: (r ++ rest) := by rw [hc]; rfl
    rw [e, readT_cons, if_pos hl, ← e, hT]
    rw [hc]; rfl
  · rw [hc]; exact gap0 g1 g2 g3
theorem src_quote {s : ByteArray} {k : List UInt8} {m : UInt8} {most : Nat} {rest : List UInt8} (hme : s.data.toList.all meU = true) (hlen : s.data.toList.length ≤ most) (hk : (m = 39 ∧ k = kAtom ∧ most = 60) ∨ (m = 34 ∧ k = kText ∧ most = 200)) :
    readT (encL m s.data.toList ++ rest) = some ⟨k, s.data.toList, (encL m s.data.toList).length⟩ ∧ gapN (encL m s.data.toList ++ rest) = 0 := by
  have e : encL m s.data.toList ++ rest = m :: (s.data.toList.flatMap (esc m) ++ m :: rest) := by simp [encL, encP]
  have hq : quoteT k most m (s.data.toList.flatMap (esc m) ++ m :: rest) = some ⟨k, s.data.toList, (encL m s.data.toList).length⟩ := by
    rw [quoteT, qpar_enc m (by rcases hk with ⟨h, _⟩ | ⟨h, _⟩; exact .inl h; exact .inr h) rest _ hme]
    simp only []
    rw [if_pos hlen]
    simp [encL, encP]
  rw [e, ← hq]
  rcases hk with ⟨rfl, rfl, rfl⟩ | ⟨rfl, rfl, rfl⟩
  · refine ⟨?_, gap0 (by decide) (by decide) (by decide)⟩
    rw [readT_cons, if_neg (by decide), if_neg (by decide), if_neg (by rw [show ((39 : UInt8) == 126) = false from rfl]; simp), if_pos (by decide)]
  · refine ⟨?_, gap0 (by decide) (by decide) (by decide)⟩
    rw [readT_cons, if_neg (by decide), if_neg (by decide), if_neg (by rw [show ((34 : UInt8) == 126) = false from rfl]; simp), if_neg (by decide), if_pos (by decide)]
theorem meanB_parts {s : ByteArray} {m : Nat} (h : meanB s (m : Int) = true) : s.data.toList.length ≤ m ∧ s.data.toList.all meU = true := by
  simp only [meanB, Bool.and_eq_true, decide_eq_true_eq] at h
  exact ⟨by simp; omega, h.2⟩
theorem plain_parts {s : ByteArray} (h : plainB s = true) : wordB s = true ∧ loB (hd s) = true ∧ upB (hd s) = false ∧ keyL s.data.toList = false := by
  simp only [plainB, Bool.and_eq_true, Bool.not_eq_true', Lib.toList_data] at h
  refine ⟨h.1.1, h.1.2, ?_, h.2⟩
  have := h.1.2
  simp only [loB, Bool.and_eq_true, decide_eq_true_eq] at this
  simp only [upB, Bool.and_eq_false_iff, decide_eq_false_iff_not]
  omega
theorem src_atom {s : ByteArray} {rest : List UInt8} (h : meanB s 60 = true) (hr : Sp0 rest) :
    readT (quoteL s ++ rest) = some ⟨kAtom, s.data.toList, (quoteL s).length⟩ ∧ gapN (quoteL s ++ rest) = 0 := by
  obtain ⟨h1, h2⟩ := meanB_parts (m := 60) h
  unfold quoteL
  split
  · rename_i hp
    obtain ⟨p1, p2, p3, p4⟩ := plain_parts hp
    have := src_word p1 (by rw [p2]; simp) hr
    rw [p3, p4] at this
    exact this
  · exact src_quote h2 h1 (.inl ⟨rfl, rfl, rfl⟩)
theorem scan_one {l t k : List UInt8} (h : readT (l ++ []) = some ⟨k, t, l.length⟩ ∧ gapN (l ++ []) = 0) (hne : l ≠ []) (hl : l.length ≤ 20000) : scanT l = ([⟨k, t, 0⟩], 0, 0) := by
  rw [List.append_nil] at h
  have hpos : 0 < l.length := List.length_pos_iff.2 hne
  have e : scanN l (skipN l) = ([⟨k, t, 0⟩], none) := by
    rw [skipN_zero h.2]
    have hr : readT (l.drop 0) = some ⟨k, t, l.length⟩ := by rw [List.drop_zero]; exact h.1
    rw [scanN_tok hpos hr]
    have hz : l.drop (0 + l.length) = [] := List.drop_of_length_le (by omega)
    simp only [hz]
    rw [show skipN ([] : List UInt8) = 0 from rfl]
    rw [scanN_end (by omega)]
  unfold scanT
  rw [if_neg (by omega), e]
end Go.Proofs.Ytjiihfdbdbhhaaa
