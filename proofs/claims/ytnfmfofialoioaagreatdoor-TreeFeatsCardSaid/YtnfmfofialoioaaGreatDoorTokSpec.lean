/-
  Plain words of the tokens of sources: bytes, words, ints, quoted texts, gaps, and the reading of a whole source. Nothing of the program stands here.
-/
namespace Go.Proofs.YtnfmfofialoioaaGreatDoor.T

/-! bytes -/
def upB (c : Int) : Bool := decide (65 ≤ c) && decide (c ≤ 90)
def loB (c : Int) : Bool := decide (97 ≤ c) && decide (c ≤ 122)
def diB (c : Int) : Bool := decide (48 ≤ c) && decide (c ≤ 57)
def prB (c : Int) : Bool := decide (32 ≤ c) && decide (c ≤ 126)
def blB (c : Int) : Bool := c == 32 || c == 9 || c == 10 || c == 13
def woB (c : Int) : Bool := upB c || loB c || diB c || c == 95
def woU (c : UInt8) : Bool := woB (c.toNat : Int)

/-! lists of bytes, by index -/
theorem all_of_bad {p : UInt8 → Bool} {s : ByteArray} (k : Nat) (hk : k < s.size) (h : p s[k] = false) : s.data.toList.all p = false := by
  have hk' : k < s.data.toList.length := by simpa using hk
  rw [Bool.eq_false_iff]
  intro e
  rw [List.all_eq_true] at e
  have := e (s.data.toList[k]) (List.getElem_mem hk')
  have e2 : s.data.toList[k] = s[k] := by simp [ByteArray.getElem_eq_getElem_data]
  rw [e2, h] at this
  cases this
theorem all_take_succ {p : UInt8 → Bool} {s : ByteArray} (k : Nat) (hk : k < s.size) (h : (s.data.toList.take k).all p = true) (h1 : p s[k] = true) : (s.data.toList.take (k + 1)).all p = true := by
  have hk' : k < s.data.toList.length := by simpa using hk
  rw [List.take_succ_eq_append_getElem hk', List.all_append, h]
  have e2 : s.data.toList[k] = s[k] := by simp [ByteArray.getElem_eq_getElem_data]
  simp [e2, h1]
theorem all_take_end {p : UInt8 → Bool} {s : ByteArray} (k : Nat) (hk : ¬ k < s.size) (h : (s.data.toList.take k).all p = true) : s.data.toList.all p = true := by
  rwa [List.take_of_length_le (by simp; omega)] at h

def wordB (s : ByteArray) : Bool := decide (0 < s.size) && decide (s.size ≤ 60) && s.data.toList.all woU
theorem wordB_pos {s : ByteArray} (h : wordB s = true) : 0 < s.size := by
  simp only [wordB, Bool.and_eq_true, decide_eq_true_eq] at h
  exact h.1.1
theorem wordB_60 {s : ByteArray} (h : wordB s = true) : s.size ≤ 60 := by
  simp only [wordB, Bool.and_eq_true, decide_eq_true_eq] at h
  exact h.1.2
def hd (s : ByteArray) : Int := ((s.data.toList.headD 0).toNat : Int)
theorem hd_eq {s : ByteArray} (h : 0 < s.size) : (s[0].toNat : Int) = hd s := by
  unfold hd
  have h' : 0 < s.data.toList.length := by simpa using h
  have e2 : s.data.toList[0] = s[0] := by simp [ByteArray.getElem_eq_getElem_data]
  rw [← e2]
  simp [List.headD_eq_head?_getD, List.head?_eq_getElem?, List.getElem?_eq_getElem h']
def keyL (l : List UInt8) : Bool := l == [97, 110, 100, 116, 104, 101, 110] || l == [97, 116] || l == [98, 121] || l == [99, 97, 115, 101] || l == [99, 97, 116, 99, 104] || l == [99, 104, 111, 105, 99, 101] || l == [100, 105, 118] || l == [100, 111] || l == [101, 97, 99, 104] || l == [101, 108, 115, 101] || l == [101, 110, 100] || l == [102, 111, 114] || l == [102, 117, 110] || l == [105, 102] || l == [105, 110] || l == [108, 97, 122, 121] || l == [108, 111, 99, 97, 108] || l == [108, 111, 99, 107] || l == [109, 111, 100] || l == [111, 114, 101, 108, 115, 101] || l == [112, 114, 111, 99] || l == [114, 97, 105, 115, 101] || l == [115, 107, 105, 112] || l == [116, 104, 101, 110] || l == [116, 104, 114, 101, 97, 100] || l == [116, 114, 121] || l == [111, 102]
def varB (s : ByteArray) : Bool := wordB s && upB (hd s)
def plainB (s : ByteArray) : Bool := wordB s && loB (hd s) && !keyL s.toList
def meU (c : UInt8) : Bool := ((c.toNat : Int) == 10) || prB (c.toNat : Int)
def meanB (s : ByteArray) (most : Int) : Bool := decide ((s.size : Int) ≤ most) && s.data.toList.all meU
def diU (c : UInt8) : Bool := diB (c.toNat : Int)
/-- the digits of an int without a sign -/
def numL (l : List UInt8) : Bool := l.all diU && !l.isEmpty && decide (l.length ≤ 18) && (!(l.headD 0 == 48) || l.length == 1)
def intL (l : List UInt8) : Bool := if l.headD 0 == 126 then !(l == [126, 48]) && numL (l.drop 1) else numL l
/-- the digits of an int without a sign, that is not 0 -/
def restL (l : List UInt8) : Bool := !l.isEmpty && decide (l.length ≤ 18) && !(l.headD 0 == 48) && l.all diU
theorem numL_rest (l : List UInt8) (h : l ≠ [48]) : numL l = restL l := by
  unfold numL restL
  rcases l with _ | ⟨a, _ | ⟨b, l⟩⟩
  · rfl
  · have : a ≠ 48 := fun e => h (by rw [e])
    simp [this, Bool.and_comm]
  · simp only [List.headD_cons, List.isEmpty_cons, List.length_cons]
    rcases (a :: b :: l).all diU <;> rcases (a == 48) <;> simp
theorem intL_rest_minus (l : List UInt8) (h : l.headD 0 = 126) : intL l = restL (l.drop 1) := by
  unfold intL
  rw [h]
  rcases l with _ | ⟨a, l⟩
  · cases h
  · simp only [List.headD_cons] at h
    subst h
    by_cases e : l = [48]
    · subst e; decide
    · simp only [List.drop_succ_cons, List.drop_zero, beq_self_eq_true, if_true]
      rw [numL_rest l e]
      simp [e]
theorem intL_rest_plus (l : List UInt8) (h : l.headD 0 ≠ 126) (h0 : l ≠ [48]) : intL l = restL l := by
  unfold intL
  rw [if_neg (by simpa using h), numL_rest l h0]
def signL (l : List UInt8) : Bool := l == [40] || l == [41] || l == [123] || l == [125] || l == [91] || l == [93] || l == [91, 93] || l == [46] || l == [124] || l == [35] || l == [61] || l == [92, 61] || l == [61, 61] || l == [60] || l == [61, 60] || l == [62] || l == [62, 61] || l == [43] || l == [45] || l == [42] || l == [126] || l == [58, 61] || l == [64] || l == [33, 33] || l == [58] || l == [46, 46, 46] || l == [36] || l == [95]
def keys : List (List UInt8) := [[97, 110, 100, 116, 104, 101, 110], [97, 116], [98, 121], [99, 97, 115, 101], [99, 97, 116, 99, 104], [99, 104, 111, 105, 99, 101], [100, 105, 118], [100, 111], [101, 97, 99, 104], [101, 108, 115, 101], [101, 110, 100], [102, 111, 114], [102, 117, 110], [105, 102], [105, 110], [108, 97, 122, 121], [108, 111, 99, 97, 108], [108, 111, 99, 107], [109, 111, 100], [111, 114, 101, 108, 115, 101], [112, 114, 111, 99], [114, 97, 105, 115, 101], [115, 107, 105, 112], [116, 104, 101, 110], [116, 104, 114, 101, 97, 100], [116, 114, 121], [111, 102]]
def signs : List (List UInt8) := [[40], [41], [123], [125], [91], [93], [91, 93], [46], [124], [35], [61], [92, 61], [61, 61], [60], [61, 60], [62], [62, 61], [43], [45], [42], [126], [58, 61], [64], [33, 33], [58], [46, 46, 46], [36], [95]]

end Go.Proofs.YtnfmfofialoioaaGreatDoor.T
