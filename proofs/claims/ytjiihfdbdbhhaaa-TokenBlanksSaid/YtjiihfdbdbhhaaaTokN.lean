/-
  Plain facts on the reading of words and digits; what a reader hands back.
-/
import Derived.Test.YtjiihfdbdbhhaaaTokL2
namespace Go.Proofs.Ytjiihfdbdbhhaaa
open Go.RowKit T

/-- what a reader of the program hands back -/
def rdV (o : Option Rd) (i : Int) : Value := match o with
  | none => .tuple #[.agg #[.string ⟨#[]⟩, .string ⟨#[]⟩, .int .i64 0], .int .i64 0, .bool false]
  | some r => .tuple #[.agg #[.string ⟨r.kind.toArray⟩, .string ⟨r.text.toArray⟩, .int .i64 i], .int .i64 (i + r.size), .bool true]

/-- what has been run over of bytes of a kind -/
def Ran (p : UInt8 → Bool) (s : ByteArray) (k0 k : Nat) : Prop := (s.data.toList.drop k0).takeWhile p = (s.extract k0 k).data.toList ++ (s.data.toList.drop k).takeWhile p
theorem ext_list (s : ByteArray) (a b : Nat) : (s.extract a b).data.toList = (s.data.toList.drop a).take (b - a) := by
  simp only [ByteArray.data_extract, Array.toList_extract, List.extract_eq_take_drop]
theorem Ran.start (p : UInt8 → Bool) (s : ByteArray) (k : Nat) : Ran p s k k := by
  unfold Ran
  rw [ext_list]; simp
theorem Ran.step {p : UInt8 → Bool} {s : ByteArray} {k0 k : Nat} (h : Ran p s k0 k) (hk : k0 ≤ k) (hlt : k < s.size) (hp : p s[k] = true) : Ran p s k0 (k + 1) := by
  unfold Ran at h ⊢
  rw [h, drop1 s k hlt, List.takeWhile_cons, if_pos hp, ext_list, ext_list]
  have e : k + 1 - k0 = (k - k0) + 1 := by omega
  have hl : k - k0 < (s.data.toList.drop k0).length := by simp; omega
  rw [e, List.take_succ_eq_append_getElem hl]
  simp only [List.getElem_drop, List.append_assoc, List.cons_append, List.nil_append]
  congr 2
  have e2 : k0 + (k - k0) = k := by omega
  have hk' : k < s.data.toList.length := by simpa using hlt
  have : s.data.toList[k0 + (k - k0)]'(by simp; omega) = s.data.toList[k] := by congr 1
  rw [this]
  rfl
theorem Ran.stop {p : UInt8 → Bool} {s : ByteArray} {k0 k : Nat} (h : Ran p s k0 k) (hlt : k < s.size) (hp : p s[k] = false) : (s.extract k0 k).data.toList = (s.data.toList.drop k0).takeWhile p := by
  unfold Ran at h
  rw [h, drop1 s k hlt, List.takeWhile_cons, if_neg (by rw [hp]; decide), List.append_nil]
theorem Ran.all {p : UInt8 → Bool} {s : ByteArray} {k0 k : Nat} (h : Ran p s k0 k) (hlt : ¬ k < s.size) : (s.extract k0 k).data.toList = (s.data.toList.drop k0).takeWhile p := by
  unfold Ran at h
  rw [h, List.drop_of_length_le (l := s.data.toList) (i := k) (by simp; omega), List.takeWhile_nil, List.append_nil]
theorem takeWhile_all (p : UInt8 → Bool) (l : List UInt8) : (l.takeWhile p).all p = true := by
  induction l with
  | nil => rfl
  | cons a l ih =>
    rw [List.takeWhile_cons]
    split
    · simp_all
    · rfl

/-- what the word at a place is, by the tests of the word that has been run over -/
theorem word_of {s t : ByteArray} {k0 : Nat} (hlt : k0 < s.size) (ht : t.data.toList = (s.data.toList.drop k0).takeWhile woU) (hl : (upB (s[k0].toNat : Int) || loB (s[k0].toNat : Int)) = true) :
    wordT (s.data.toList.drop k0) = if varB t = true then some ⟨kVar, t.data.toList, t.size⟩ else if plainB t = true then some ⟨kAtom, t.data.toList, t.size⟩ else if keyL t.toList = true then some ⟨kKey, t.data.toList, t.size⟩ else none := by
  have hw : woU s[k0] = true := by
    unfold woU woB
    rcases h1 : upB (s[k0].toNat : Int) with _ | _
    · rw [h1] at hl; simp at hl; rw [hl]; rfl
    · rfl
  have hh : t.data.toList = s[k0] :: (s.data.toList.drop (k0 + 1)).takeWhile woU := by
    rw [ht, drop1 s k0 hlt, List.takeWhile_cons, if_pos hw]
  have hall : t.data.toList.all woU = true := by rw [ht]; exact takeWhile_all _ _
  have hpos : 0 < t.size := by rw [size_list hh]; simp
  have hhd : hd t = (s[k0].toNat : Int) := by unfold hd; rw [hh]; rfl
  have hhd2 : (s.data.toList.drop k0).headD 0 = s[k0] := by rw [drop1 s k0 hlt]; rfl
  have hsz : t.data.toList.length = t.size := by simp
  have hkey : keyL t.toList = true → t.size ≤ 60 := by
    intro hk
    rw [Lib.toList_data, keyL_mem] at hk
    have hk := of_decide_eq_true hk
    have : ∀ w ∈ keys, w.length ≤ 60 := by decide
    have := this _ hk
    omega
  unfold wordT varB plainB wordB
  simp only [← ht, hsz, hhd2, hhd, hall, Lib.toList_data] at hkey ⊢
  rw [decide_eq_true hpos]
  by_cases h60 : t.size ≤ 60
  · rw [if_pos h60, decide_eq_true h60]
    rcases h1 : upB (s[k0].toNat : Int) with _ | _
    · rw [h1] at hl
      simp at hl
      rw [hl]
      rcases h2 : keyL t.data.toList with _ | _ <;> simp
    · simp
  · rw [if_neg h60, decide_eq_false h60]
    have : keyL t.data.toList = false := by
      rcases h2 : keyL t.data.toList with _ | _
      · rfl
      · exact absurd (hkey h2) h60
    simp [this]
end Go.Proofs.Ytjiihfdbdbhhaaa
