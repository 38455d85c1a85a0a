/-
  Plain words of the reading of a source: gaps, and the token that begins at a place. Nothing of the program stands here.
-/
import Derived.Test.YtjiihfdbdbhhaaaTokM3
namespace Go.Proofs.Ytjiihfdbdbhhaaa.T

/-! gaps -/
def lineN (l : List UInt8) : Nat := match l with
  | [] => 0
  | c :: r => if (c == 10) = true then 1 else lineN r + 1
/-- from inside d remarks: how far the last of them ends; none: it does not end -/
def nestN (d : Nat) (l : List UInt8) : Option Nat := match l with
  | [] => none
  | [_] => none
  | a :: b :: r =>
    if (a == 47 && b == 42) = true then (nestN (d + 1) r).map (· + 2)
    else if (a == 42 && b == 47) = true then (if d ≤ 1 then some 2 else (nestN (d - 1) r).map (· + 2))
    else (nestN d (b :: r)).map (· + 1)
def nestedN (l : List UInt8) : Nat := match l with
  | a :: b :: r => if (a == 47 && b == 42) = true then (match nestN 1 r with | some n => n + 2 | none => 0) else 0
  | _ => 0
def blU (c : UInt8) : Bool := blB (c.toNat : Int)
/-- the size of the blank or remark at the head; 0: none -/
def gapN (l : List UInt8) : Nat := match l with
  | [] => 0
  | c :: r => if blU c = true then 1 else if (c == 37) = true then lineN (c :: r) else nestedN (c :: r)
def skipF : Nat → List UInt8 → Nat
  | 0, _ => 0
  | f + 1, l => if gapN l = 0 then 0 else gapN l + skipF f (l.drop (gapN l))
def skipN (l : List UInt8) : Nat := skipF l.length l

theorem lineN_le (l : List UInt8) : lineN l ≤ l.length := by
  induction l with
  | nil => simp [lineN]
  | cons c r ih => unfold lineN; split <;> simp <;> omega
theorem lineN_pos (c : UInt8) (r : List UInt8) : 0 < lineN (c :: r) := by unfold lineN; split <;> omega
theorem nestN_le : ∀ (f : Nat) (l : List UInt8) (d n : Nat), l.length ≤ f → nestN d l = some n → n ≤ l.length ∧ 2 ≤ n := by
  intro f
  induction f with
  | zero =>
    intro l d n hl h
    match l, hl with
    | [], _ => simp [nestN] at h
  | succ f ih =>
    intro l d n hl h
    match l, hl, h with
    | [], _, h => simp [nestN] at h
    | [_], _, h => simp [nestN] at h
    | a :: b :: r, hl, h =>
      simp only [List.length_cons] at hl ⊢
      unfold nestN at h
      split at h
      · obtain ⟨m, hm, rfl⟩ := Option.map_eq_some_iff.1 h
        have := ih r _ m (by omega) hm
        omega
      · split at h
        · split at h
          · cases h; omega
          · obtain ⟨m, hm, rfl⟩ := Option.map_eq_some_iff.1 h
            have := ih r _ m (by omega) hm
            omega
        · obtain ⟨m, hm, rfl⟩ := Option.map_eq_some_iff.1 h
          have := ih (b :: r) _ m (by simp; omega) hm
          simp only [List.length_cons] at this
          omega
theorem nestedN_le (l : List UInt8) : nestedN l ≤ l.length := by
  unfold nestedN
  split
  · split
    · split
      · rename_i hn
        have := nestN_le _ _ _ _ (Nat.le_refl _) hn
        simp; omega
      · omega
    · omega
  · omega
theorem gapN_le (l : List UInt8) : gapN l ≤ l.length := by
  unfold gapN
  split
  · simp
  · split
    · simp
    · split
      · exact lineN_le _
      · exact nestedN_le _
theorem skipF_more : ∀ (f g : Nat) (l : List UInt8), l.length ≤ f → l.length ≤ g → skipF f l = skipF g l := by
  intro f
  induction f with
  | zero =>
    intro g l hf _
    have : l = [] := List.eq_nil_of_length_eq_zero (by omega)
    subst this
    cases g <;> simp [skipF, gapN]
  | succ f ih =>
    intro g l hf hg
    cases g with
    | zero =>
      have : l = [] := List.eq_nil_of_length_eq_zero (by omega)
      subst this
      simp [skipF, gapN]
    | succ g =>
      unfold skipF
      by_cases h : gapN l = 0
      · simp [h]
      · rw [if_neg h, if_neg h, ih g (l.drop (gapN l)) (by simp; omega) (by simp; omega)]
theorem skipN_zero {l : List UInt8} (h : gapN l = 0) : skipN l = 0 := by
  unfold skipN
  cases hl : l.length with
  | zero => rfl
  | succ n => unfold skipF; rw [if_pos h]
theorem skipN_step {l : List UInt8} (h : gapN l ≠ 0) : skipN l = gapN l + skipN (l.drop (gapN l)) := by
  have := gapN_le l
  unfold skipN
  cases hl : l.length with
  | zero => omega
  | succ n =>
    rw [show skipF (n + 1) l = if gapN l = 0 then 0 else gapN l + skipF n (l.drop (gapN l)) from rfl, if_neg h]
    rw [skipF_more n (l.drop (gapN l)).length (l.drop (gapN l)) (by simp; omega) (Nat.le_refl _)]
theorem skipF_le : ∀ (f : Nat) (l : List UInt8), skipF f l ≤ l.length := by
  intro f
  induction f with
  | zero => intro l; simp [skipF]
  | succ f ih =>
    intro l
    unfold skipF
    split
    · omega
    · have h1 := ih (l.drop (gapN l))
      have h2 := gapN_le l
      simp at h1
      omega
theorem skipN_le (l : List UInt8) : skipN l ≤ l.length := skipF_le _ _

/-! tokens -/
def kVar : List UInt8 := [118, 97, 114]
def kAtom : List UInt8 := [97, 116, 111, 109]
def kInt : List UInt8 := [105, 110, 116]
def kText : List UInt8 := [116, 101, 120, 116]
def kChar : List UInt8 := [99, 104, 97, 114]
def kKey : List UInt8 := [107, 101, 121]
def kSign : List UInt8 := [115, 105, 103, 110]

/-- what stands between quotes, from behind the first mark: its meaning, and its size with the last mark -/
def qpar (m : UInt8) (l : List UInt8) : Option (List UInt8 × Nat) := match l with
  | [] => none
  | [c] => if (c == m) = true then some ([], 1) else none
  | c :: d :: r =>
    if (c == m) = true then some ([], 1)
    else if (c == 92) = true then
      (if (d == m || d == 92) = true then (qpar m r).map (fun p => (d :: p.1, p.2 + 2))
       else if (d == 110) = true then (qpar m r).map (fun p => (10 :: p.1, p.2 + 2)) else none)
    else if prB (c.toNat : Int) = true then (qpar m (d :: r)).map (fun p => (c :: p.1, p.2 + 1)) else none

structure Rd where
  kind : List UInt8
  text : List UInt8
  size : Nat

def wordT (l : List UInt8) : Option Rd :=
  let s := l.takeWhile woU
  if s.length ≤ 60 then some ⟨if upB ((l.headD 0).toNat : Int) = true then kVar else if keyL s = true then kKey else kAtom, s, s.length⟩ else none
def numT (l : List UInt8) : Option Rd :=
  let s := l.takeWhile diU
  if numL s = true then some ⟨kInt, s, s.length⟩ else none
def minusT (r : List UInt8) : Option Rd :=
  let s := r.takeWhile diU
  if (s == [48]) = true then some ⟨kSign, [126], 1⟩ else if numL s = true then some ⟨kInt, 126 :: s, s.length + 1⟩ else none
def quoteT (k : List UInt8) (most : Nat) (m : UInt8) (r : List UInt8) : Option Rd :=
  match qpar m r with
  | some (t, n) => if t.length ≤ most then some ⟨k, t, n + 1⟩ else none
  | none => none
def charT (r : List UInt8) : Option Rd := match r with
  | [] => none
  | [c] => if (c == 92) = true then none else if (decide (33 ≤ (c.toNat : Int)) && decide ((c.toNat : Int) ≤ 126)) = true then some ⟨kChar, [c], 2⟩ else none
  | c :: d :: _ =>
    if (c == 92) = true then
      (if (d == 110) = true then some ⟨kChar, [10], 3⟩ else if (d == 115) = true then some ⟨kChar, [32], 3⟩ else if (d == 92) = true then some ⟨kChar, [92], 3⟩ else none)
    else if (decide (33 ≤ (c.toNat : Int)) && decide ((c.toNat : Int) ≤ 126)) = true then some ⟨kChar, [c], 2⟩ else none
def signT (l : List UInt8) : Option Rd :=
  if (decide (3 ≤ l.length) && signL (l.take 3)) = true then some ⟨kSign, l.take 3, 3⟩
  else if (decide (2 ≤ l.length) && signL (l.take 2)) = true then some ⟨kSign, l.take 2, 2⟩
  else if (decide (1 ≤ l.length) && signL (l.take 1)) = true then some ⟨kSign, l.take 1, 1⟩ else none
/-- the token at the head -/
def readT (l : List UInt8) : Option Rd := match l with
  | [] => none
  | c :: r =>
    if (upB (c.toNat : Int) || loB (c.toNat : Int)) = true then wordT (c :: r)
    else if diU c = true then numT (c :: r)
    else if (c == 126 && (match r with | [] => false | d :: _ => diU d)) = true then minusT r
    else if (c == 39) = true then quoteT kAtom 60 39 r
    else if (c == 34) = true then quoteT kText 200 34 r
    else if (c == 38) = true then charT r
    else signT (c :: r)
end Go.Proofs.Ytjiihfdbdbhhaaa.T
