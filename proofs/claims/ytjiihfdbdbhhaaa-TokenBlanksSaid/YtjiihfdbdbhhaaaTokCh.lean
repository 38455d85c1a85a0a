/-
  Chars: the document's own answer.
-/
import Derived.Test.YtjiihfdbdbhhaaaTokQr
import Derived.Test.YtjiihfdbdbhhaaaTokY2
import Derived.RegionTactic
import Derived.ChangeAlike
import Derived.BigRegion
namespace Go.Proofs.Ytjiihfdbdbhhaaa
open Go.RowKit T

/-- what the document's own reader hands back, of a token that is there or not -/
def OneR (o : Option Rd) (k : Nat) (K T : ByteArray) (P E : Int) (B : Bool) : Prop :=
  (o = none ∧ B = false) ∨ ∃ r : Rd, o = some r ∧ B = true ∧ K = ⟨r.kind.toArray⟩ ∧ T = ⟨r.text.toArray⟩ ∧ P = (k : Int) ∧ E = (k : Int) + (r.size : Int)
def OnePost (o : Option Rd) (k : Nat) (w : World) (e : Ending) (w' : World) : Prop :=
  ∃ (K T : ByteArray) (P E : Int) (B : Bool), e = .returned (.tuple #[.agg #[.string K, .string T, .int .i64 P], .int .i64 E, .bool B]) ∧ Below w.heap.size w w' ∧ OneR o k K T P E B
theorem OneR.no {o : Option Rd} {k : Nat} {K T : ByteArray} {P E : Int} {B : Bool} (h : o = none) (hB : B = false) : OneR o k K T P E B := .inl ⟨h, hB⟩
theorem OneR.yes {o : Option Rd} {k : Nat} {K T : ByteArray} {P E : Int} {kind : List UInt8} {n : Nat} (h : o = some ⟨kind, T.data.toList, n⟩) (hK : K.data.toList = kind) (hP : P = (k : Int)) (hE : E = (k : Int) + (n : Int)) : OneR o k K T P E true :=
  .inr ⟨_, h, rfl, by subst hK; exact mk_list rfl, mk_list rfl, hP, hE⟩

theorem charT_one {s : ByteArray} {k : Nat} (h : k < s.size) (q : ((s[k].toNat : Int) == 92) = false) :
    charT (s.data.toList.drop k) = if (decide (33 ≤ (s[k].toNat : Int)) && decide ((s[k].toNat : Int) ≤ 126)) = true then some ⟨kChar, [s[k]], 2⟩ else none := by
  have e := beq_b _ 92 92 rfl _ q
  rw [drop1 s k h]
  rcases s.data.toList.drop (k + 1) with _ | ⟨d, r⟩
  · rw [charT, e]; rfl
  · rw [charT, e]; rfl
theorem charT_two {s : ByteArray} {k : Nat} (h : k + 1 < s.size) (q : ((s[k].toNat : Int) == 92) = true) :
    charT (s.data.toList.drop k) = if (s[k + 1] == 110) = true then some ⟨kChar, [10], 3⟩ else if (s[k + 1] == 115) = true then some ⟨kChar, [32], 3⟩ else if (s[k + 1] == 92) = true then some ⟨kChar, [92], 3⟩ else none := by
  have e := beq_b _ 92 92 rfl _ q
  rw [drop2 s k h, charT, e]; rfl
theorem charT_end {s : ByteArray} {k : Nat} (h : k < s.size) (h' : ¬ k + 1 < s.size) (q : ((s[k].toNat : Int) == 92) = true) : charT (s.data.toList.drop k) = none := by
  have e := beq_b _ 92 92 rfl _ q
  rw [drop1 s k h, List.drop_of_length_le (l := s.data.toList) (i := k + 1) (by simp; omega), charT, e]; rfl

set_option maxHeartbeats 4000000 in
theorem char_any (s : ByteArray) (k0 : Nat) (i : Int) (w : World) (hs : s.size ≤ 100000) (hi : i = (k0 : Int)) (hlt0 : k0 < s.size) :
    Calls Try.prog 81 #[.string s, .int .i64 i] w (OnePost (charT (s.data.toList.drop (k0 + 1))) k0 w) := by
  subst hi
  by_cases h1 : k0 + 1 < s.size
  · have z1 : ((k0 : Int) + 1 == (s.size : Int)) = false := by simp; omega
    rcases q1 : ((s[k0 + 1].toNat : Int) == 92) with _ | _
    · have q1' : ((s[k0 + 1].toNat : Int) != 92) = true := by simp only [bne, q1]; rfl
      have E0 := Lib.hid (charT_one h1 q1)
      have HS := Lib.hid (sub_one s (k0 + 1) h1)
      by_cases p : (decide (33 ≤ (s[k0 + 1].toNat : Int)) && decide ((s[k0 + 1].toNat : Int) ≤ 126)) = true
      · have F := Lib.hid (show charT (s.data.toList.drop (k0 + 1)) = some ⟨kChar, (s.extract (k0 + 1) (k0 + 2)).data.toList, 2⟩ by rw [E0.out, if_pos p, HS.out])
        simp only [Bool.and_eq_true, decide_eq_true_eq] at p
        obtain ⟨p1, p2⟩ := p
        go_enter Try.func81, Try.ntmps81
        go_wp2_with fail
        go_returns
        exact ⟨_, _, _, _, _, rfl, ((Below.refl _ _).alloc (Nat.le_refl _) _).alloc (by simp) _, OneR.yes F.out rfl rfl (by omega)⟩
      · have F := Lib.hid (show charT (s.data.toList.drop (k0 + 1)) = none by rw [E0.out, if_neg p])
        have p' : ¬ (33 ≤ (s[k0 + 1].toNat : Int)) ∨ (33 ≤ (s[k0 + 1].toNat : Int) ∧ ¬ (s[k0 + 1].toNat : Int) ≤ 126) := by
          simp only [Bool.and_eq_true, decide_eq_true_eq] at p
          omega
        clear p
        rcases p' with p1 | ⟨p1, p2⟩
        all_goals
          go_enter Try.func81, Try.ntmps81
          go_wp2_with fail
          go_returns
          exact ⟨_, _, _, _, _, rfl, ((Below.refl _ _).alloc (Nat.le_refl _) _).alloc (by simp) _, OneR.no F.out (by first | rfl | (simp; omega))⟩
    · have q1' : ((s[k0 + 1].toNat : Int) != 92) = false := by simp only [bne, q1]; rfl
      by_cases h2 : k0 + 2 < s.size
      · have z2 : ((k0 : Int) + 2 == (s.size : Int)) = false := by simp; omega
        have E0 := Lib.hid (charT_two (k := k0 + 1) h2 q1)
        rcases r1 : ((s[k0 + 2].toNat : Int) == 110) with _ | _
        · rcases r2 : ((s[k0 + 2].toNat : Int) == 115) with _ | _
          · rcases r3 : ((s[k0 + 2].toNat : Int) == 92) with _ | _
            · have F := E0.out
              rw [beq_b _ 110 110 rfl _ r1, beq_b _ 115 115 rfl _ r2, beq_b _ 92 92 rfl _ r3] at F
              simp only [Bool.false_eq_true, if_false] at F
              have F := Lib.hid F
              go_enter Try.func81, Try.ntmps81
              go_wp2_with fail
              go_region
              all_goals
                go_wp2_with fail
                go_returns
                exact ⟨_, _, _, _, _, rfl, (((Below.refl _ _).alloc (Nat.le_refl _) _).alloc (by simp) _).drew, OneR.no F.out (by first | rfl | (simp; omega))⟩
            · have F := E0.out
              rw [beq_b _ 110 110 rfl _ r1, beq_b _ 115 115 rfl _ r2, beq_b _ 92 92 rfl _ r3] at F
              simp only [Bool.false_eq_true, if_false, if_true] at F
              have F := Lib.hid (show charT (s.data.toList.drop (k0 + 1)) = some ⟨kChar, (⟨#[92]⟩ : ByteArray).data.toList, 3⟩ from F)
              go_enter Try.func81, Try.ntmps81
              go_wp2_with fail
              go_region
              all_goals
                go_wp2_with fail
                go_returns
                exact ⟨_, _, _, _, _, rfl, (((Below.refl _ _).alloc (Nat.le_refl _) _).alloc (by simp) _).drew, OneR.yes F.out rfl rfl (by omega)⟩
          · have F := E0.out
            rw [beq_b _ 110 110 rfl _ r1, beq_b _ 115 115 rfl _ r2] at F
            simp only [Bool.false_eq_true, if_false, if_true] at F
            have F := Lib.hid (show charT (s.data.toList.drop (k0 + 1)) = some ⟨kChar, (⟨#[32]⟩ : ByteArray).data.toList, 3⟩ from F)
            go_enter Try.func81, Try.ntmps81
            go_wp2_with fail
            go_region
            all_goals
              go_wp2_with fail
              go_returns
              exact ⟨_, _, _, _, _, rfl, (((Below.refl _ _).alloc (Nat.le_refl _) _).alloc (by simp) _).drew, OneR.yes F.out rfl rfl (by omega)⟩
        · have F := E0.out
          rw [beq_b _ 110 110 rfl _ r1] at F
          simp only [if_true] at F
          have F := Lib.hid (show charT (s.data.toList.drop (k0 + 1)) = some ⟨kChar, (⟨#[10]⟩ : ByteArray).data.toList, 3⟩ from F)
          go_enter Try.func81, Try.ntmps81
          go_wp2_with fail
          go_region
          all_goals
            go_wp2_with fail
            go_returns
            exact ⟨_, _, _, _, _, rfl, (((Below.refl _ _).alloc (Nat.le_refl _) _).alloc (by simp) _).drew, OneR.yes F.out rfl rfl (by omega)⟩
      · have z2 : ((k0 : Int) + 2 == (s.size : Int)) = true := by simp; omega
        have F := Lib.hid (charT_end h1 h2 q1)
        go_enter Try.func81, Try.ntmps81
        go_wp2_with fail
        go_returns
        exact ⟨_, _, _, _, _, rfl, ((Below.refl _ _).alloc (Nat.le_refl _) _).alloc (by simp) _, OneR.no F.out (by first | rfl | (simp; omega))⟩
  · have z1 : ((k0 : Int) + 1 == (s.size : Int)) = true := by simp; omega
    have F := Lib.hid (show charT (s.data.toList.drop (k0 + 1)) = none by
      rw [List.drop_of_length_le (l := s.data.toList) (i := k0 + 1) (by simp; omega)]; rfl)
    go_enter Try.func81, Try.ntmps81
    go_wp2_with fail
    go_returns
    exact ⟨_, _, _, _, _, rfl, ((Below.refl _ _).alloc (Nat.le_refl _) _).alloc (by simp) _, OneR.no F.out (by first | rfl | (simp; omega))⟩
end Go.Proofs.Ytjiihfdbdbhhaaa
