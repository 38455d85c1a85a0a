/-
  Texts of domains, plainly: written, and read in two ways.
-/
import Derived.Lib.IndexMore
import Derived.Lib.AtoiAll
import Derived.Test.YtjhlodbhchdkbaaGreatDoorDsA
namespace Go.Proofs.YtjhlodbhchdkbaaGreatDoor
set_option linter.unusedSimpArgs false
set_option linter.unusedVariables false
open Go Go.RowKit Go.Lib Go.Ev

/-- a number's digits -/
def decF : Nat → Nat → List UInt8
  | 0, _ => []
  | k + 1, n => if n < 10 then [UInt8.ofNat (48 + n)] else decF k (n / 10) ++ [UInt8.ofNat (48 + n % 10)]
def dec (n : Nat) : List UInt8 := decF 5 n
/-- the number of a word -/
def rdW (l : List UInt8) : Int := match Lib.atoiAll l with
  | .ok v => v
  | .range => Lib.atoiSat l
  | _ => 0
def numB (l : List UInt8) : Bool := match Lib.atoiAll l with
  | .ok v => decide (0 ≤ v) && decide (v ≤ 1000) && decide (dec v.toNat = l)
  | _ => false
theorem dec_atoi : ∀ n, n < 1001 → Lib.atoiAll (dec n) = .ok (n : Int) := by decide +kernel
theorem dec_dig : ∀ n, n < 1001 → ((dec n).all fun b => decide (48 ≤ b.toNat) && decide (b.toNat ≤ 57)) = true := by decide +kernel
theorem dec_ne : ∀ n, n < 1001 → (dec n).isEmpty = false := by decide +kernel
theorem dec_rd {n : Nat} (h : n ≤ 1000) : rdW (dec n) = (n : Int) := by unfold rdW; rw [dec_atoi n (by omega)]
theorem numB_dec {n : Nat} (h : n ≤ 1000) : numB (dec n) = true := by
  unfold numB
  rw [dec_atoi n (by omega)]
  simp only [Bool.and_eq_true, decide_eq_true_eq]
  exact ⟨⟨by omega, by omega⟩, by rw [Int.toNat_natCast]⟩
theorem numB_some {l : List UInt8} (h : numB l = true) : ∃ n : Nat, n ≤ 1000 ∧ l = dec n := by
  unfold numB at h
  rcases ha : Lib.atoiAll l with v | _ | _
  · rw [ha] at h
    simp only [Bool.and_eq_true, decide_eq_true_eq] at h
    exact ⟨v.toNat, by omega, h.2.symm⟩
  · rw [ha] at h; cases h
  · rw [ha] at h; cases h
theorem dec_no {n : Nat} (h : n ≤ 1000) {c : UInt8} (hc : c.toNat < 48 ∨ 57 < c.toNat) : c ∉ dec n := fun hm => by
  have := List.all_eq_true.1 (dec_dig n (by omega)) c hm
  simp only [Bool.and_eq_true, decide_eq_true_eq] at this
  omega

/-- a range's text -/
def rgT (x : Int × Int) : List UInt8 := dec x.1.toNat ++ (if x.1 < x.2 then 35 :: dec x.2.toNat else [])
def InR (x : Int × Int) : Prop := 0 ≤ x.1 ∧ x.1 ≤ x.2 ∧ x.2 ≤ 1000
def rgV (l : List UInt8) : Int × Int := if numB (Lib.cut l [35]).1 = true ∧ (Lib.cut l [35]).2.2 = true then (rdW (Lib.cut l [35]).1, rdW (Lib.cut l [35]).2.1) else (rdW (Lib.cut l [35]).1, rdW (Lib.cut l [35]).1)
def rgB (l : List UInt8) : Bool := numB (Lib.cut l [35]).1 && (!(Lib.cut l [35]).2.2 || (numB (Lib.cut l [35]).2.1 && decide (rdW (Lib.cut l [35]).1 < rdW (Lib.cut l [35]).2.1)))

theorem index1_none {c : UInt8} : ∀ {l : List UInt8}, c ∉ l → Lib.index l [c] = -1
  | [], _ => rfl
  | b :: l, h => by
    have hb : c ≠ b := fun e => h (by simp [e])
    have := index1_none (fun e => h (by simp [e]) : c ∉ l)
    unfold Lib.index
    rw [this]
    have : ([c] : List UInt8).isPrefixOf (b :: l) = false := by simp [List.isPrefixOf, hb]
    rw [this]
    rfl
theorem index1_some {c : UInt8} : ∀ {p r : List UInt8}, c ∉ p → Lib.index (p ++ c :: r) [c] = p.length
  | [], r, _ => by
    show Lib.index (c :: r) [c] = 0
    unfold Lib.index
    rw [if_pos (by simp [List.isPrefixOf])]
  | b :: p, r, h => by
    have hb : c ≠ b := fun e => h (by simp [e])
    have ih := index1_some (r := r) (fun e => h (by simp [e]) : c ∉ p)
    show Lib.index (b :: (p ++ c :: r)) [c] = _
    unfold Lib.index
    have hn : ([c] : List UInt8).isPrefixOf (b :: (p ++ c :: r)) = false := by simp [List.isPrefixOf, hb]
    rw [hn, ih]
    have : ((p.length : Int) == -1) = false := by rw [beq_eq_false_iff_ne]; omega
    simp [this]
/-- a text either has the sign or not -/
theorem has_sign (c : UInt8) : ∀ l : List UInt8, c ∉ l ∨ ∃ p r, l = p ++ c :: r ∧ c ∉ p
  | [] => Or.inl (by simp)
  | b :: l => by
    by_cases hb : c = b
    · exact Or.inr ⟨[], l, by rw [hb]; rfl, by simp⟩
    · rcases has_sign c l with h | ⟨p, r, rfl, h⟩
      · exact Or.inl (by simp [hb, h])
      · exact Or.inr ⟨b :: p, r, rfl, by simp [hb, h]⟩
theorem cut1_none {c : UInt8} {l : List UInt8} (h : c ∉ l) : Lib.cut l [c] = (l, [], false) := by
  unfold Lib.cut
  rw [index1_none h, if_neg (by decide)]
theorem cut1_some {c : UInt8} {p r : List UInt8} (h : c ∉ p) : Lib.cut (p ++ c :: r) [c] = (p, r, true) := by
  unfold Lib.cut
  rw [index1_some h, if_pos (by omega), Int.toNat_natCast, List.take_left' rfl, List.drop_append]
  simp
theorem rg_of {x : Int × Int} (h : InR x) : rgB (rgT x) = true ∧ rgV (rgT x) = x := by
  obtain ⟨h1, h2, h3⟩ := h
  have n1 := dec_no (n := x.1.toNat) (c := 35) (by omega) (Or.inl (by decide))
  have e1 : ((x.1.toNat : Nat) : Int) = x.1 := by omega
  have e2 : ((x.2.toNat : Nat) : Int) = x.2 := by omega
  unfold rgB rgV rgT
  by_cases hl : x.1 < x.2
  · rw [if_pos hl, cut1_some n1]
    simp only [numB_dec (show x.1.toNat ≤ 1000 by omega), numB_dec (show x.2.toNat ≤ 1000 by omega), dec_rd (show x.1.toNat ≤ 1000 by omega), dec_rd (show x.2.toNat ≤ 1000 by omega), e1, e2]
    exact ⟨by simp [hl], by rw [if_pos (by simp)]⟩
  · rw [if_neg hl, List.append_nil, cut1_none n1]
    simp only [numB_dec (show x.1.toNat ≤ 1000 by omega), dec_rd (show x.1.toNat ≤ 1000 by omega), e1]
    refine ⟨rfl, ?_⟩
    rw [if_neg (by rintro ⟨_, h⟩; cases h)]
    have : x.1 = x.2 := by omega
    exact Prod.ext rfl this
theorem rg_some {l : List UInt8} (h : rgB l = true) : InR (rgV l) ∧ l = rgT (rgV l) := by
  unfold rgB at h
  rw [Bool.and_eq_true] at h
  obtain ⟨h1, h2⟩ := h
  rcases has_sign 35 l with hn | ⟨p, r, rfl, hp⟩
  · rw [cut1_none hn] at h1 h2
    obtain ⟨n, hn1, rfl⟩ := numB_some h1
    have : rgV (dec n) = ((n : Int), (n : Int)) := by
      unfold rgV
      rw [cut1_none hn]
      simp only [numB_dec hn1, dec_rd hn1]
      rw [if_neg (by rintro ⟨_, h⟩; cases h)]
    rw [this]
    refine ⟨⟨by simp, by simp, by simp; omega⟩, ?_⟩
    unfold rgT
    rw [if_neg (by simp), List.append_nil]
    simp
  · rw [cut1_some hp] at h1 h2
    simp only [Bool.not_true, Bool.false_or, Bool.and_eq_true, decide_eq_true_eq] at h2
    obtain ⟨n, hn1, rfl⟩ := numB_some h1
    obtain ⟨m, hm1, rfl⟩ := numB_some h2.1
    rw [dec_rd hn1, dec_rd hm1] at h2
    have : rgV (dec n ++ 35 :: dec m) = ((n : Int), (m : Int)) := by
      unfold rgV
      rw [cut1_some hp]
      simp only [numB_dec hn1, dec_rd hn1, dec_rd hm1]
      rw [if_pos (by simp)]
    rw [this]
    refine ⟨⟨by simp, by simp; omega, by simp; omega⟩, ?_⟩
    unfold rgT
    rw [if_pos h2.2]
    simp

/-- parts between spaces -/
def spl : List UInt8 → List (List UInt8)
  | [] => [[]]
  | b :: l => if b = 32 then [] :: spl l else match spl l with
    | [] => [[b]]
    | p :: ps => (b :: p) :: ps
theorem spl_none : ∀ {p : List UInt8}, (32 : UInt8) ∉ p → spl p = [p]
  | [], _ => rfl
  | b :: p, h => by
    have hb : b ≠ 32 := fun e => h (by simp [e])
    have := spl_none (fun e => h (by simp [e]) : (32 : UInt8) ∉ p)
    rw [spl, if_neg hb, this]
theorem spl_some : ∀ {p r : List UInt8}, (32 : UInt8) ∉ p → spl (p ++ 32 :: r) = p :: spl r
  | [], r, _ => by
    show spl (32 :: r) = _
    rw [spl, if_pos rfl]
  | b :: p, r, h => by
    have hb : b ≠ 32 := fun e => h (by simp [e])
    have ih := spl_some (r := r) (fun e => h (by simp [e]) : (32 : UInt8) ∉ p)
    show spl (b :: (p ++ 32 :: r)) = _
    rw [spl, if_neg hb, ih]
/-- ranges, a space ahead of each -/
def tailJ : List (Int × Int) → List UInt8
  | [] => []
  | x :: r => 32 :: (rgT x ++ tailJ r)
def jnT : List (Int × Int) → List UInt8
  | [] => []
  | x :: r => rgT x ++ tailJ r
def txD (d : List (Int × Int)) : List UInt8 := if d = [] then [45] else jnT d
theorem rgT_noSp {x : Int × Int} (h : InR x) : (32 : UInt8) ∉ rgT x := by
  obtain ⟨h1, h2, h3⟩ := h
  unfold rgT
  simp only [List.mem_append, not_or]
  refine ⟨dec_no (by omega) (Or.inl (by decide)), ?_⟩
  split
  · simp only [List.mem_cons, not_or]
    exact ⟨by decide, dec_no (by omega) (Or.inl (by decide))⟩
  · simp
theorem spl_join : ∀ (x : Int × Int) (r : List (Int × Int)), InR x → (∀ y ∈ r, InR y) → spl (rgT x ++ tailJ r) = (x :: r).map rgT
  | x, [], hx, _ => by
    show spl (rgT x ++ []) = _
    rw [List.append_nil, spl_none (rgT_noSp hx)]
    rfl
  | x, y :: r, hx, h => by
    show spl (rgT x ++ 32 :: (rgT y ++ tailJ r)) = _
    rw [spl_some (rgT_noSp hx), spl_join y r (h y (by simp)) (fun z hz => h z (by simp [hz]))]
    rfl
theorem join_spl : ∀ (l p : List UInt8) (ps : List (List UInt8)), spl l = p :: ps → l = p ++ (ps.map (32 :: ·)).flatten
  | [], p, ps, h => by
    rw [spl] at h
    injection h with h1 h2
    subst h1 h2
    rfl
  | b :: l, p, ps, h => by
    rw [spl] at h
    by_cases hb : b = 32
    · rw [if_pos hb] at h
      injection h with h1 h2
      subst h1 hb
      cases hs : spl l with
      | nil => rw [hs] at h2; subst h2; exact absurd hs (by cases l with | nil => simp [spl] | cons c t => rw [spl]; split; simp; split <;> simp)
      | cons q qs =>
        rw [hs] at h2
        subst h2
        have := join_spl l q qs hs
        simp [← this]
    · rw [if_neg hb] at h
      cases hs : spl l with
      | nil => exact absurd hs (by cases l with | nil => simp [spl] | cons c t => rw [spl]; split; simp; split <;> simp)
      | cons q qs =>
        rw [hs] at h
        injection h with h1 h2
        subst h1 h2
        have := join_spl l q qs hs
        simp [← this]
theorem tailJ_flat : ∀ r : List (Int × Int), tailJ r = ((r.map rgT).map (32 :: ·)).flatten
  | [] => rfl
  | x :: r => by
    show 32 :: (rgT x ++ tailJ r) = _
    rw [tailJ_flat r]
    simp

/-- the program's way: part by part -/
def prs : Int → List (List UInt8) → Option (List (Int × Int))
  | _, [] => some []
  | n, p :: ps => if rgB p = true ∧ n ≤ (rgV p).1 then (prs ((rgV p).2 + 2) ps).map (rgV p :: ·) else none
theorem prs_some : ∀ (ps : List (List UInt8)) (n : Int) (d : List (Int × Int)), 0 ≤ n → prs n ps = some d → vd n d = true ∧ ps = d.map rgT ∧ ∀ x ∈ d, InR x
  | [], n, d, _, h => by
    rw [prs] at h
    injection h with h
    subst h
    exact ⟨rfl, rfl, fun x hx => by cases hx⟩
  | p :: ps, n, d, hn, h => by
    rw [prs] at h
    by_cases hc : rgB p = true ∧ n ≤ (rgV p).1
    · rw [if_pos hc] at h
      obtain ⟨hr, hp⟩ := rg_some hc.1
      cases hq : prs ((rgV p).2 + 2) ps with
      | none => rw [hq] at h; cases h
      | some e =>
        rw [hq] at h
        injection h with h
        subst h
        obtain ⟨i1, i2, i3⟩ := prs_some ps _ e (by have := hr.1; have := hr.2.1; omega) hq
        refine ⟨?_, by rw [List.map_cons, ← hp, ← i2], fun x hx => ?_⟩
        · show vd n (((rgV p).1, (rgV p).2) :: e) = true
          rw [vd, i1]
          simp only [Bool.and_true, Bool.and_eq_true, decide_eq_true_eq]
          exact ⟨⟨hc.2, hr.2.1⟩, hr.2.2⟩
        · rcases List.mem_cons.1 hx with rfl | hx
          · exact hr
          · exact i3 x hx
    · rw [if_neg hc] at h; cases h
theorem vd_inR : ∀ (d : List (Int × Int)) (n : Int), 0 ≤ n → vd n d = true → ∀ x ∈ d, InR x := fun d n hn h x hx => by
  have := vd_all hn h x hx
  exact ⟨by omega, this.2.1, this.2.2⟩
theorem prs_of : ∀ (d : List (Int × Int)) (n : Int), 0 ≤ n → vd n d = true → prs n (d.map rgT) = some d
  | [], n, _, _ => rfl
  | (a, b) :: r, n, hn, h => by
    have hr := vd_inR _ n hn h (a, b) (by simp)
    rw [vd] at h
    simp only [Bool.and_eq_true, decide_eq_true_eq] at h
    obtain ⟨⟨⟨h1, h2⟩, h3⟩, h4⟩ := h
    obtain ⟨e1, e2⟩ := rg_of hr
    rw [List.map_cons, prs, e2, if_pos ⟨e1, h1⟩, prs_of r (b + 2) (by omega) h4]
    rfl
def parseP (l : List UInt8) : Option (List (Int × Int)) := if l = [45] then some [] else prs 0 (spl l)
theorem jnT_not (x : Int × Int) (r : List (Int × Int)) (hx : InR x) : jnT (x :: r) ≠ [45] := by
  show rgT x ++ tailJ r ≠ [45]
  unfold rgT
  obtain ⟨h1, h2, h3⟩ := hx
  have hd := dec_dig x.1.toNat (by omega)
  have hne := dec_ne x.1.toNat (by omega)
  cases he : dec x.1.toNat with
  | nil => rw [he] at hne; cases hne
  | cons b q =>
    rw [he] at hd
    simp only [List.all_cons, Bool.and_eq_true, decide_eq_true_eq] at hd
    intro h
    have : b = 45 := by simp at h; exact h.1
    rw [this] at hd
    revert hd
    simp
theorem spl_ne (l : List UInt8) : ∃ p ps, spl l = p :: ps := by
  cases h : spl l with
  | nil => exact absurd h (by cases l with | nil => simp [spl] | cons c t => rw [spl]; split; simp; split <;> simp)
  | cons p ps => exact ⟨p, ps, rfl⟩
theorem parseP_iff (l : List UInt8) (d : List (Int × Int)) : parseP l = some d ↔ (vd 0 d = true ∧ l = txD d) := by
  unfold parseP txD
  by_cases hl : l = [45]
  · rw [if_pos hl]
    constructor
    · intro h
      injection h with h
      subst h
      exact ⟨rfl, by rw [if_pos rfl]; exact hl⟩
    · rintro ⟨h1, h2⟩
      cases d with
      | nil => rfl
      | cons x r =>
        rw [if_neg (by simp)] at h2
        exact absurd (h2.symm.trans hl) (jnT_not x r (vd_inR _ 0 (by decide) h1 x (by simp)))
  · rw [if_neg hl]
    constructor
    · intro h
      obtain ⟨h1, h2, h3⟩ := prs_some _ 0 d (by decide) h
      refine ⟨h1, ?_⟩
      obtain ⟨p, ps, hs⟩ := spl_ne l
      cases d with
      | nil => rw [hs] at h2; cases h2
      | cons x r =>
        rw [if_neg (by simp)]
        rw [hs, List.map_cons] at h2
        injection h2 with e1 e2
        rw [join_spl l p ps hs, e1, e2, ← tailJ_flat]
        rfl
    · rintro ⟨h1, h2⟩
      cases d with
      | nil => rw [if_pos rfl] at h2; exact absurd h2 hl
      | cons x r =>
        rw [if_neg (by simp)] at h2
        have hr := vd_inR _ 0 (by decide) h1
        subst h2
        show prs 0 (spl (rgT x ++ tailJ r)) = _
        rw [spl_join x r (hr x (by simp)) (fun y hy => hr y (by simp [hy]))]
        exact prs_of _ 0 (by decide) h1

/-- the document's way: digits as long as there are some -/
def nmD : Int → List UInt8 → Int × List UInt8
  | n, [] => (n, [])
  | n, b :: l => if (48 ≤ b.toNat ∧ b.toNat ≤ 57) ∧ n ≤ 1000 then nmD (10 * n + ((b.toNat : Int) - 48)) l else (n, b :: l)
def chk : Int → List UInt8 → Option Int
  | n, [] => some n
  | n, b :: l => if (48 ≤ b.toNat ∧ b.toNat ≤ 57) ∧ n ≤ 1000 then chk (10 * n + ((b.toNat : Int) - 48)) l else none
theorem nmD_chk : ∀ (l : List UInt8) (n m : Int) (rest : List UInt8), chk n l = some m → nmD n (l ++ rest) = nmD m rest
  | [], n, m, rest, h => by rw [chk] at h; injection h with h; subst h; rfl
  | b :: l, n, m, rest, h => by
    rw [chk] at h
    show nmD n (b :: (l ++ rest)) = _
    rw [nmD]
    split at h
    · rename_i hc; rw [if_pos hc]; exact nmD_chk l _ m rest h
    · cases h
theorem chk_dec : ∀ n, n < 1001 → chk 0 (dec n) = some (n : Int) := by decide +kernel
theorem nmD_dec {n : Nat} (h : n ≤ 1000) (rest : List UInt8) (hr : ∀ b q, rest = b :: q → ¬ (48 ≤ b.toNat ∧ b.toNat ≤ 57)) : nmD 0 (dec n ++ rest) = ((n : Int), rest) := by
  rw [nmD_chk _ _ _ rest (chk_dec n (by omega))]
  cases rest with
  | nil => rfl
  | cons b q => rw [nmD, if_neg fun hc => hr b q rfl hc.1]
theorem nmD_len : ∀ (l : List UInt8) (n : Int), (nmD n l).2.length ≤ l.length
  | [], n => Nat.le_refl _
  | b :: l, n => by
    rw [nmD]
    split
    · exact Nat.le_succ_of_le (nmD_len l _)
    · exact Nat.le_refl _
def hiD (a : Int × List UInt8) : Int × List UInt8 := if a.2.head? = some 35 then nmD 0 a.2.tail else a
def rdD : Nat → List UInt8 → List (Int × Int)
  | 0, _ => []
  | k + 1, l => ((nmD 0 l).1, (hiD (nmD 0 l)).1) :: (if (hiD (nmD 0 l)).2.head? = some 32 then rdD k (hiD (nmD 0 l)).2.tail else [])
theorem rd_one {x : Int × Int} (hx : InR x) (rest : List UInt8) (hr : rest = [] ∨ ∃ q, rest = 32 :: q) : (nmD 0 (rgT x ++ rest)).1 = x.1 ∧ hiD (nmD 0 (rgT x ++ rest)) = (x.2, rest) := by
  obtain ⟨h1, h2, h3⟩ := hx
  have hnd : ∀ b q, rest = b :: q → ¬ (48 ≤ b.toNat ∧ b.toNat ≤ 57) := fun b q e => by
    rcases hr with rfl | ⟨q', rfl⟩
    · cases e
    · injection e with e _; subst e; decide
  have e1 : ((x.1.toNat : Nat) : Int) = x.1 := by omega
  have e2 : ((x.2.toNat : Nat) : Int) = x.2 := by omega
  unfold rgT hiD
  by_cases hl : x.1 < x.2
  · rw [if_pos hl, List.append_assoc, nmD_dec (by omega) _ (fun b q e => by
      have : b = 35 := by injection e with e _; exact e.symm
      subst this; decide), e1]
    refine ⟨rfl, ?_⟩
    show (if (35 :: (dec x.2.toNat ++ rest)).head? = some 35 then nmD 0 (35 :: (dec x.2.toNat ++ rest)).tail else _) = _
    rw [List.head?_cons, if_pos rfl, List.tail_cons, nmD_dec (by omega) _ hnd, e2]
  · rw [if_neg hl, List.append_nil, nmD_dec (by omega) _ hnd, e1]
    refine ⟨rfl, ?_⟩
    have : x.1 = x.2 := by omega
    rcases hr with rfl | ⟨q', rfl⟩
    · rw [if_neg (by simp), this]
    · rw [if_neg (by simp), this]
theorem rd_join : ∀ (r : List (Int × Int)) (x : Int × Int) (k : Nat), InR x → (∀ y ∈ r, InR y) → r.length < k → rdD k (rgT x ++ tailJ r) = x :: r
  | [], x, k, hx, _, hk => by
    obtain ⟨k, rfl⟩ : ∃ j, k = j + 1 := ⟨k - 1, by simp at hk; omega⟩
    obtain ⟨e1, e2⟩ := rd_one hx [] (Or.inl rfl)
    rw [rdD, show tailJ [] = [] from rfl, e1, e2, if_neg (by simp)]
  | y :: r, x, k, hx, h, hk => by
    obtain ⟨k, rfl⟩ : ∃ j, k = j + 1 := ⟨k - 1, by simp at hk; omega⟩
    obtain ⟨e1, e2⟩ := rd_one hx (tailJ (y :: r)) (Or.inr ⟨_, rfl⟩)
    rw [rdD, e1, e2]
    show (x.1, x.2) :: (if (tailJ (y :: r)).head? = some 32 then rdD k (tailJ (y :: r)).tail else []) = _
    rw [show (tailJ (y :: r)).head? = some 32 from rfl, if_pos rfl, show (tailJ (y :: r)).tail = rgT y ++ tailJ r from rfl, rd_join r y k (h y (by simp)) (fun z hz => h z (by simp [hz])) (by simp at hk; omega)]
theorem tailJ_len : ∀ r : List (Int × Int), r.length ≤ (tailJ r).length
  | [] => Nat.le_refl _
  | x :: r => by
    have := tailJ_len r
    show r.length + 1 ≤ (32 :: (rgT x ++ tailJ r)).length
    simp only [List.length_cons, List.length_append]
    omega
/-- what the document's Parse hands out -/
def parseD (l : List UInt8) : Option (List (Int × Int)) := if l = [45] then some [] else if vd 0 (rdD (l.length + 1) l) = true ∧ txD (rdD (l.length + 1) l) = l then some (rdD (l.length + 1) l) else none
theorem parse_both (l : List UInt8) : parseD l = parseP l := by
  by_cases hl : l = [45]
  · unfold parseD parseP; rw [if_pos hl, if_pos hl]
  · cases hp : parseP l with
    | some d =>
      obtain ⟨h1, h2⟩ := (parseP_iff l d).1 hp
      cases d with
      | nil => exact absurd (by rw [h2]; rfl) hl
      | cons x r =>
        have hr := vd_inR _ 0 (by decide) h1
        have h3 : l = rgT x ++ tailJ r := by rw [h2]; rfl
        have hk : r.length < l.length + 1 := by rw [h3, List.length_append]; have := tailJ_len r; omega
        have e : rdD (l.length + 1) l = x :: r := by
          generalize l.length + 1 = k at *
          rw [h3]
          exact rd_join r x k (hr x (by simp)) (fun y hy => hr y (by simp [hy])) hk
        unfold parseD
        rw [if_neg hl, e, if_pos ⟨h1, h2.symm⟩]
    | none =>
      unfold parseD
      rw [if_neg hl]
      by_cases hc : vd 0 (rdD (l.length + 1) l) = true ∧ txD (rdD (l.length + 1) l) = l
      · have := (parseP_iff l _).2 ⟨hc.1, hc.2.symm⟩
        rw [hp] at this
        cases this
      · rw [if_neg hc]
end Go.Proofs.YtjhlodbhchdkbaaGreatDoor
