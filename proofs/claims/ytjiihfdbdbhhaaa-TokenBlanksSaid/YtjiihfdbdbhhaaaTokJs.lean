/-
  Plain facts: the tokens of the joined sources of valid tokens are these tokens.
-/
import Derived.Test.YtjiihfdbdbhhaaaTokJn
import Derived.Test.YtjiihfdbdbhhaaaTokSrb
namespace Go.Proofs.Ytjiihfdbdbhhaaa
open Go.RowKit T

theorem join_rest (ts : List (ByteArray × ByteArray × Int)) : Sp0 (ts.flatMap (fun u => 32 :: srcOf u)) ∧ (ts ≠ [] → ts.flatMap (fun u => 32 :: srcOf u) = 32 :: joinL ts) := by
  cases ts with
  | nil => exact ⟨.inl rfl, fun h => absurd rfl h⟩
  | cons t ts => exact ⟨.inr ⟨srcOf t ++ ts.flatMap (fun u => 32 :: srcOf u), by simp⟩, fun _ => by simp [joinL]⟩
theorem gap_sp (r : List UInt8) : gapN (32 :: r) = 1 := by rw [gapN]; rfl
theorem scan_join (L : List UInt8) : ∀ (ks : List (ByteArray × ByteArray × Int)) (p : Nat), ks.all okOf = true → L.drop p = joinL ks → p ≤ L.length →
    (scanN L p).2 = none ∧ (scanN L p).1.map (fun t => (t.kind, t.text)) = ks.map (fun t => (t.1.toList, t.2.1.data.toList)) := by
  intro ks
  induction ks with
  | nil =>
    intro p _ hd hp
    have : ¬ p < L.length := by
      intro h
      have := congrArg List.length hd
      simp [joinL] at this
      omega
    rw [scanN_end this]
    exact ⟨rfl, rfl⟩
  | cons t ts ih =>
    intro p hok hd hp
    simp only [List.all_cons, Bool.and_eq_true] at hok
    obtain ⟨hsp, hne⟩ := join_rest ts
    have hsrc := src_any (k := t.1.toList) (s := t.2.1) (rest := ts.flatMap (fun u => 32 :: srcOf u)) hok.1 hsp
    have hjl : joinL (t :: ts) = textL t.1.toList t.2.1 ++ ts.flatMap (fun u => 32 :: srcOf u) := rfl
    rw [← hjl, ← hd] at hsrc
    have hsz := readT_size hsrc.1
    simp only [List.length_drop] at hsz
    have hlt : p < L.length := by omega
    rw [scanN_tok hlt hsrc.1]
    have hd2 : L.drop (p + (textL t.1.toList t.2.1).length) = ts.flatMap (fun u => 32 :: srcOf u) := by
      rw [← List.drop_drop, hd, hjl, List.drop_left]
    simp only []
    rw [hd2]
    cases ts with
    | nil =>
      have : ¬ (p + (textL t.1.toList t.2.1).length + skipN ([] : List UInt8)) < L.length := by
        have := congrArg List.length hd2
        simp at this
        omega
      rw [show (([] : List (ByteArray × ByteArray × Int)).flatMap (fun u => 32 :: srcOf u)) = [] from rfl, scanN_end this]
      exact ⟨rfl, rfl⟩
    | cons u us =>
      rw [hne (by simp)] at hd2 ⊢
      have hsrc2 := src_any (k := u.1.toList) (s := u.2.1) (rest := us.flatMap (fun u => 32 :: srcOf u)) (by have := hok.2; simp only [List.all_cons, Bool.and_eq_true] at this; exact this.1) (join_rest us).1
      have hsk : skipN (32 :: joinL (u :: us)) = 1 := by
        rw [skipN_step (by rw [gap_sp]; decide), gap_sp]
        rw [show (32 :: joinL (u :: us)).drop 1 = joinL (u :: us) from rfl, show skipN (joinL (u :: us)) = 0 from skipN_zero hsrc2.2]
      rw [hsk]
      have hd3 : L.drop (p + (textL t.1.toList t.2.1).length + 1) = joinL (u :: us) := by
        rw [← List.drop_drop, hd2]; rfl
      have hp3 : p + (textL t.1.toList t.2.1).length + 1 ≤ L.length := by
        have := congrArg List.length hd2
        simp at this
        omega
      obtain ⟨i1, i2⟩ := ih _ hok.2 hd3 hp3
      refine ⟨i1, ?_⟩
      simp only [List.map_cons] at i2 ⊢
      rw [i2]
theorem scanT_join {ks : List (ByteArray × ByteArray × Int)} (hok : ks.all okOf = true) (hl : (joinL ks).length ≤ 20000) :
    ∃ ts, scanT (joinL ks) = (ts, 0, 0) ∧ ts.map (fun t => (t.kind, t.text)) = ks.map (fun t => (t.1.toList, t.2.1.data.toList)) := by
  have hsk : skipN (joinL ks) = 0 := by
    cases ks with
    | nil => rfl
    | cons t ts =>
      have hsrc := src_any (k := t.1.toList) (s := t.2.1) (rest := ts.flatMap (fun u => 32 :: srcOf u)) (by simp only [List.all_cons, Bool.and_eq_true] at hok; exact hok.1) (join_rest ts).1
      exact skipN_zero hsrc.2
  obtain ⟨h1, h2⟩ := scan_join (joinL ks) ks 0 hok rfl (Nat.zero_le _)
  refine ⟨(scanN (joinL ks) 0).1, ?_, h2⟩
  rw [scanT_of hl, hsk, h1]
end Go.Proofs.Ytjiihfdbdbhhaaa
