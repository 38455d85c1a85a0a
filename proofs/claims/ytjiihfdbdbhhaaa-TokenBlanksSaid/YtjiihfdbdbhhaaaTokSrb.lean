/-
  Plain facts: the source of any valid token, with nothing or a space behind it, is read as that token.
-/
import Derived.Test.YtjiihfdbdbhhaaaTokSrc
namespace Go.Proofs.Ytjiihfdbdbhhaaa
open Go.RowKit T

theorem src_int {l rest : List UInt8} (h : intL l = true) (hr : Sp0 rest) : readT (l ++ rest) = some ⟨kInt, l, l.length⟩ ∧ gapN (l ++ rest) = 0 := by
  unfold intL at h
  split at h
  · rename_i h126
    rcases l with _ | ⟨a, d⟩
    · simp at h126
    · have ha : a = 126 := by simpa using h126
      subst ha
      simp only [List.drop_succ_cons, List.drop_zero, Bool.and_eq_true, Bool.not_eq_true'] at h
      obtain ⟨hne, hn⟩ := h
      obtain ⟨c, r, hc, hd, hall⟩ := numL_cons hn
      have hne' : (d == [48]) = false := by
        rcases q : (d == [48]) with _ | _
        · rfl
        · rw [eq_of_beq q] at hne; simp at hne
      refine ⟨?_, gap0 (by decide) (by decide) (by decide)⟩
      have hnx : nextD (d ++ rest) = true := by rw [hc]; exact hd
      rw [List.cons_append, readT_cons, if_neg (by decide), if_neg (by decide), if_pos (by rw [hnx]; rfl)]
      unfold minusT
      rw [tw_src hall (by decide) hr]
      simp only []
      rw [hne', if_neg (by decide), if_pos hn]
      rfl
  · obtain ⟨c, r, hc, hd, hall⟩ := numL_cons h
    obtain ⟨g1, g2, g3, g4⟩ := head_digit hd
    refine ⟨?_, by rw [hc]; exact gap0 g1 g2 g3⟩
    have e : l ++ rest = c :: (r ++ rest) := by rw [hc]; rfl
    rw [e, readT_cons, if_neg (by rw [g4]; decide), if_pos hd, ← e]
    unfold numT
    rw [tw_src hall (by decide) hr]
    simp only []
    rw [if_pos h]
theorem keys_chk : ∀ w ∈ keys, (wordB ⟨w.toArray⟩ && loB ((w.headD 0).toNat : Int) && !upB ((w.headD 0).toNat : Int)) = true := by decide
theorem src_key {s : ByteArray} {rest : List UInt8} (h : keyL s.data.toList = true) (hr : Sp0 rest) : readT (s.data.toList ++ rest) = some ⟨kKey, s.data.toList, s.data.toList.length⟩ ∧ gapN (s.data.toList ++ rest) = 0 := by
  have hm : s.data.toList ∈ keys := by rw [keyL_mem] at h; exact of_decide_eq_true h
  have hk := keys_chk _ hm
  rw [← mk_list (rfl : s.data.toList = s.data.toList)] at hk
  simp only [Bool.and_eq_true, Bool.not_eq_true'] at hk
  obtain ⟨⟨h1, h2⟩, h3⟩ := hk
  have := src_word (s := s) h1 (by unfold hd; rw [h2]; simp) hr
  rw [show upB (hd s) = false from h3, h] at this
  exact this
theorem src_char {s : ByteArray} {rest : List UInt8} (hs : s.size = 1) (h : meanB s 1 = true) (_hr : Sp0 rest) :
    readT (38 :: charL (s.data.toList.headD 0) ++ rest) = some ⟨kChar, s.data.toList, (38 :: charL (s.data.toList.headD 0)).length⟩ ∧ gapN (38 :: charL (s.data.toList.headD 0) ++ rest) = 0 := by
  have h0 : 0 < s.size := by omega
  have h1 := one_byte hs h0
  obtain ⟨_, hme⟩ := meanB_parts (m := 1) h
  rw [h1] at hme ⊢
  simp only [List.headD_cons, List.all_cons, List.all_nil, Bool.and_true] at hme ⊢
  generalize s[0] = c at hme ⊢
  refine ⟨?_, gap0 (by decide) (by decide) (by decide)⟩
  rw [List.cons_append, readT_cons, if_neg (by decide), if_neg (by decide), if_neg (by rw [show ((38 : UInt8) == 126) = false from rfl]; simp), if_neg (by decide), if_neg (by decide), if_pos (by decide)]
  unfold charL
  by_cases h10 : (c == 10) = true
  · rw [if_pos h10, eq_of_beq h10]; simp [charT]
  · rw [if_neg h10]
    by_cases h32 : (c == 32) = true
    · rw [if_pos h32, eq_of_beq h32]; simp [charT]
    · rw [if_neg h32]
      by_cases h92 : (c == 92) = true
      · rw [if_pos h92, eq_of_beq h92]; simp [charT]
      · rw [if_neg h92]
        have hp : (decide (33 ≤ (c.toNat : Int)) && decide ((c.toNat : Int) ≤ 126)) = true := by
          unfold meU at hme
          have n10 : ((c.toNat : Int) == 10) = false := by
            rcases q : ((c.toNat : Int) == 10) with _ | _
            · rfl
            · exact absurd (beq_b _ 10 10 rfl _ q) h10
          have n32 : (c.toNat : Int) ≠ 32 := by
            intro e
            exact h32 (beq_b c 32 32 rfl true (by rw [e]; rfl))
          rw [n10] at hme
          simp [prB] at hme
          simp
          omega
        rcases rest with _ | ⟨d, r⟩
        · simp only [List.cons_append, List.nil_append]
          rw [charT, if_neg h92, if_pos hp]; rfl
        · simp only [List.cons_append, List.nil_append]
          rw [charT, if_neg h92, if_pos hp]; rfl
theorem signs_brk : ∀ w ∈ signs, ∀ c ∈ w, c ≠ 32 := signs_ok
theorem sign_no32 {l : List UInt8} (h : (32 : UInt8) ∈ l) : signL l = false := by
  rw [signL_mem]
  exact decide_eq_false fun hm => signs_ok l hm 32 h rfl
theorem signs_len : ∀ w ∈ signs, 1 ≤ w.length ∧ w.length ≤ 3 := by decide
theorem signs_head : ∀ w ∈ signs, (!blU (w.headD 0) && !(w.headD 0 == 37) && !(w.headD 0 == 47) && !(upB ((w.headD 0).toNat : Int) || loB ((w.headD 0).toNat : Int)) && !diU (w.headD 0) && !(w.headD 0 == 39) && !(w.headD 0 == 34) && !(w.headD 0 == 38) && (!(w.headD 0 == 126) || w == [126])) = true := by decide
theorem signT_src {l rest : List UInt8} (h : signL l = true) (hr : Sp0 rest) : signT (l ++ rest) = some ⟨kSign, l, l.length⟩ := by
  have hm : l ∈ signs := by rw [signL_mem] at h; exact of_decide_eq_true h
  have hl := signs_len l hm
  have hlong : ∀ n, l.length < n → (decide (n ≤ (l ++ rest).length) && signL ((l ++ rest).take n)) = false := by
    intro n hn
    rcases hr with rfl | ⟨r, rfl⟩
    · rw [decide_eq_false (by simp; omega)]; rfl
    · rw [sign_no32 (l := (l ++ 32 :: r).take n)]
      · simp
      · rw [List.take_append]
        have : n - l.length = (n - l.length - 1) + 1 := by omega
        rw [this, List.take_succ_cons]
        simp
  have hit : (decide (l.length ≤ (l ++ rest).length) && signL ((l ++ rest).take l.length)) = true := by
    rw [List.take_left]
    simp [h]
  have htk : (l ++ rest).take l.length = l := List.take_left
  unfold signT
  have h3 : l.length = 1 ∨ l.length = 2 ∨ l.length = 3 := by omega
  rcases h3 with e | e | e
  · rw [hlong 3 (by omega), hlong 2 (by omega)]
    rw [e] at hit htk ⊢
    rw [hit, htk]; rfl
  · rw [hlong 3 (by omega)]
    rw [e] at hit htk ⊢
    rw [hit, htk]; rfl
  · rw [e] at hit htk ⊢
    rw [hit, htk]; rfl
theorem src_sign {l rest : List UInt8} (h : signL l = true) (hr : Sp0 rest) : readT (l ++ rest) = some ⟨kSign, l, l.length⟩ ∧ gapN (l ++ rest) = 0 := by
  have hm : l ∈ signs := by rw [signL_mem] at h; exact of_decide_eq_true h
  have hl := signs_len l hm
  have hh := signs_head l hm
  have hS := signT_src h hr
  rcases l with _ | ⟨a, l⟩
  · simp at hl
  · simp only [List.headD_cons, Bool.and_eq_true, Bool.not_eq_true', Bool.or_eq_true] at hh
    obtain ⟨⟨⟨⟨⟨⟨⟨⟨g1, g2⟩, g3⟩, g4⟩, g5⟩, g6⟩, g7⟩, g8⟩, g9⟩ := hh
    refine ⟨?_, gap0 g1 (by simpa using g2) (by simpa using g3)⟩
    have hnx : (a == 126 && nextD (l ++ rest)) = false := by
      rcases g9 with g9 | g9
      · rw [g9]; rfl
      · have := eq_of_beq g9
        simp at this
        rw [this.2]
        rcases hr with rfl | ⟨r, rfl⟩
        · simp [nextD]
        · have : diU 32 = false := by decide
          simp [nextD, this]
    rw [List.cons_append, readT_cons, if_neg (by rw [g4]; decide), if_neg (by rw [g5]; decide), if_neg (by rw [hnx]; decide), if_neg (by rw [g6]; decide), if_neg (by rw [g7]; decide), if_neg (by rw [g8]; decide)]
    exact hS
theorem src_any {k : List UInt8} {s : ByteArray} {rest : List UInt8} (hv : validB k s = true) (hr : Sp0 rest) :
    readT (textL k s ++ rest) = some ⟨k, s.data.toList, (textL k s).length⟩ ∧ gapN (textL k s ++ rest) = 0 := by
  unfold validB at hv
  split at hv
  · rename_i h; rw [eq_of_beq h]
    simp only [varB, Bool.and_eq_true] at hv
    have := src_word (s := s) hv.1 (by rw [hv.2]; rfl) hr
    rw [hv.2] at this
    exact this
  · split at hv
    · rename_i h; rw [eq_of_beq h]; exact src_atom hv hr
    · split at hv
      · rename_i h; rw [eq_of_beq h]; exact src_int hv hr
      · split at hv
        · rename_i h; rw [eq_of_beq h]
          obtain ⟨h1, h2⟩ := meanB_parts (m := 200) hv
          exact src_quote h2 h1 (.inr ⟨rfl, rfl, rfl⟩)
        · split at hv
          · rename_i h; rw [eq_of_beq h]
            simp only [Bool.and_eq_true, decide_eq_true_eq] at hv
            exact src_char hv.1 hv.2 hr
          · split at hv
            · rename_i h; rw [eq_of_beq h]
              rw [Lib.toList_data] at hv
              exact src_key hv hr
            · split at hv
              · rename_i h; rw [eq_of_beq h]
                rw [Lib.toList_data] at hv
                exact src_sign hv hr
              · cases hv
end Go.Proofs.Ytjiihfdbdbhhaaa
