/-
  One int: the document's own answer.
-/
import Derived.Test.YtjiihfdbdbhhaaaTokOn
import Derived.StillTailTactics
namespace Go.Proofs.Ytjiihfdbdbhhaaa
open Go.RowKit T

theorem numT_run {s : ByteArray} {k : Nat} : numT (s.data.toList.drop k) =
    if numL (s.extract k (runN diU s k)).data.toList = true then some ⟨kInt, (s.extract k (runN diU s k)).data.toList, runN diU s k - k⟩ else none := by
  have h1 := runN_ext diU s k
  have h2 : ((s.data.toList.drop k).takeWhile diU).length = runN diU s k - k := by unfold runN; omega
  unfold numT
  simp only [h1, h2]

set_option maxHeartbeats 4000000 in
set_option maxRecDepth 100000 in
theorem one_num (s : ByteArray) (k : Nat) (i : Int) (w : World) (hs : s.size ≤ 100000) (hi : i = (k : Int)) (hlt : k < s.size) (hl : (upB (s[k].toNat : Int) || loB (s[k].toNat : Int)) = false) (hd : diB (s[k].toNat : Int) = true) :
    Calls Try.prog 59 #[.string s, .int .i64 i] w (OnePost (numT (s.data.toList.drop k)) k w) := by
  subst hi
  obtain ⟨hu, hlo⟩ := notLetter hl
  clear hl
  have q1 : ((s[k].toNat : Int) == 39) = false := by
    simp only [diB, Bool.and_eq_true, decide_eq_true_eq] at hd
    simp; omega
  have q2 : ((s[k].toNat : Int) == 34) = false := by
    simp only [diB, Bool.and_eq_true, decide_eq_true_eq] at hd
    simp; omega
  have HT := Lib.hid (numT_run (s := s) (k := k))
  have RW := fun wx => run_digits s k (k : Int) wx hs rfl (by omega)
  obtain ⟨hr1, hr2⟩ := runN_le diU s k (by omega)
  generalize runN diU s k = e at *
  have RW := Lib.hid RW
  have hes := ext_size s k e hr2
  have hke : (s.extract k e).size ≤ maxLen := by unfold maxLen; omega
  clear hes
  have NC := fun wx => IsNumber_any (s.extract k e) wx hke
  rcases hn : numL (s.extract k e).data.toList with _ | _
  all_goals
    have F := HT.out
    rw [hn] at F
    simp only [Bool.false_eq_true, if_true, if_false] at F
    have F := Lib.hid F
    have NC := NC
    rw [hn] at NC
    have NC := Lib.hid NC
    clear HT hn
    go_enter Try.func59, Try.ntmps59
    go_wp2_with (first | (go_at_call 51; refine (great_r_any _ _).mono ?_; rintro e w' ⟨rfl, rfl⟩) | (go_at_call 53; refine (small_r_any _ _).mono ?_; rintro e w' ⟨rfl, rfl⟩) | (go_at_call 80; refine (digit_r_any _ _).mono ?_; rintro e w' ⟨rfl, rfl⟩))
    refine (RW.out _).mono ?_
    rintro e w' ⟨rfl, rfl⟩
    go_wp2_with fail
    go_region
    go_wp2_with fail
    go_region_with (go_at_call 62; refine (NC.out _).mono ?_; rintro e w' ⟨rfl, rfl⟩)
    all_goals
      go_wp2_with fail
      go_returns
      refine ⟨_, _, _, _, _, rfl, (((Below.refl _ _).alloc (Nat.le_refl _) _).alloc (by simp) _).drew.drew, ?_⟩
      first
      | exact OneR.no F.out rfl
      | exact OneR.yes F.out rfl rfl (by omega)

theorem minusT_run {s : ByteArray} {k : Nat} (hlt : k + 1 < s.size) (hm : s[k] = 126) (hd : diU s[k + 1] = true) : minusT (s.data.toList.drop (k + 1)) =
    if ((s.extract (k + 1) (runN diU s (k + 1))).toList == [48]) = true then some ⟨kSign, (⟨#[126]⟩ : ByteArray).data.toList, 1⟩
    else if intL (s.extract k (runN diU s (k + 1))).data.toList = true then some ⟨kInt, (s.extract k (runN diU s (k + 1))).data.toList, runN diU s (k + 1) - k⟩ else none := by
  have h1 := runN_ext diU s (k + 1)
  have h2 : ((s.data.toList.drop (k + 1)).takeWhile diU).length = runN diU s (k + 1) - (k + 1) := by unfold runN; omega
  obtain ⟨h3, h4⟩ := runN_le diU s (k + 1) (by omega)
  have h5 := ext_cons s k (runN diU s (k + 1)) (by omega) h4
  have h6 : k + 1 < runN diU s (k + 1) := by
    have := tw_pos diU s[k + 1] (s.data.toList.drop (k + 1 + 1)) hd
    rw [← drop1 s (k + 1) hlt] at this
    unfold runN; omega
  rw [Lib.toList_data, h1] at *
  rw [h5, hm]
  unfold minusT
  simp only []
  rcases h : ((s.data.toList.drop (k + 1)).takeWhile diU == [48]) with _ | _
  · have e1 : ((126 :: (s.data.toList.drop (k + 1)).takeWhile diU) == [126, 48]) = false := by
      rw [← h]
      show ((126 : UInt8) == 126 && _) = _
      simp
    have e2 : intL (126 :: (s.data.toList.drop (k + 1)).takeWhile diU) = numL ((s.data.toList.drop (k + 1)).takeWhile diU) := by
      rw [intL, if_pos (by rfl), e1]; rfl
    rw [e2, h2]
    have e3 : runN diU s (k + 1) - (k + 1) + 1 = runN diU s (k + 1) - k := by omega
    rw [e3]
  · rfl

set_option maxHeartbeats 4000000 in
set_option maxRecDepth 100000 in
theorem one_minus (s : ByteArray) (k : Nat) (i : Int) (w : World) (hs : s.size ≤ 100000) (hi : i = (k : Int)) (hlt : k < s.size) (hl : (upB (s[k].toNat : Int) || loB (s[k].toNat : Int)) = false) (hd : diB (s[k].toNat : Int) = false)
    (hm : ((s[k].toNat : Int) == 126) = true) (hlt2 : k + 1 < s.size) (hd2 : diB (s[k + 1].toNat : Int) = true) :
    Calls Try.prog 59 #[.string s, .int .i64 i] w (OnePost (minusT (s.data.toList.drop (k + 1))) k w) := by
  subst hi
  obtain ⟨hu, hlo⟩ := notLetter hl
  clear hl
  have q1 : ((s[k].toNat : Int) == 39) = false := by
    simp only [beq_iff_eq] at hm
    simp; omega
  have q2 : ((s[k].toNat : Int) == 34) = false := by
    simp only [beq_iff_eq] at hm
    simp; omega
  have HT := Lib.hid (minusT_run hlt2 (eq_of_beq (beq_b _ 126 126 rfl _ hm)) hd2)
  have RW := fun wx => run_digits s (k + 1) ((k : Int) + 1) wx hs (by omega) (by omega)
  obtain ⟨hr1, hr2⟩ := runN_le diU s (k + 1) (by omega)
  generalize runN diU s (k + 1) = e at *
  have RW := Lib.hid RW
  have hes := ext_size s k e hr2
  have hke : (s.extract k e).size ≤ 1000000 := by omega
  clear hes
  have NC := fun wx => IsInt_r_any (s.extract k e) wx hke
  rcases hz : ((s.extract (k + 1) e).toList == [48]) with _ | _
  · rcases hn : intL (s.extract k e).data.toList with _ | _
    all_goals
      have F := HT.out
      rw [hz, hn] at F
      simp only [Bool.false_eq_true, if_true, if_false] at F
      have F := Lib.hid F
      have NC := NC
      rw [hn] at NC
      have NC := Lib.hid NC
      clear HT hn
      go_enter Try.func59, Try.ntmps59
      go_wp2_with (first | (go_at_call 51; refine (great_r_any _ _).mono ?_; rintro e w' ⟨rfl, rfl⟩) | (go_at_call 53; refine (small_r_any _ _).mono ?_; rintro e w' ⟨rfl, rfl⟩) | (go_at_call 80; refine (digit_r_any _ _).mono ?_; rintro e w' ⟨rfl, rfl⟩))
      refine (RW.out _).mono ?_
      rintro e w' ⟨rfl, rfl⟩
      go_wp2_with fail
      go_region
      go_wp2_with fail
      go_region_with (go_at_call 42; refine (NC.out _).mono ?_; rintro e w' ⟨rfl, rfl⟩)
      all_goals
        go_wp2_with fail
        go_returns
        refine ⟨_, _, _, _, _, rfl, (((Below.refl _ _).alloc (Nat.le_refl _) _).alloc (by simp) _).drew.drew, ?_⟩
        first
        | exact OneR.no F.out rfl
        | exact OneR.yes F.out rfl rfl (by omega)
  · have F := HT.out
    rw [hz] at F
    simp only [if_true] at F
    have F := Lib.hid F
    clear HT NC
    go_enter Try.func59, Try.ntmps59
    go_wp2_with (first | (go_at_call 51; refine (great_r_any _ _).mono ?_; rintro e w' ⟨rfl, rfl⟩) | (go_at_call 53; refine (small_r_any _ _).mono ?_; rintro e w' ⟨rfl, rfl⟩) | (go_at_call 80; refine (digit_r_any _ _).mono ?_; rintro e w' ⟨rfl, rfl⟩))
    refine (RW.out _).mono ?_
    rintro e w' ⟨rfl, rfl⟩
    go_wp2_with fail
    go_returns
    exact ⟨_, _, _, _, _, rfl, ((Below.refl _ _).alloc (Nat.le_refl _) _).alloc (by simp) _, OneR.yes F.out rfl rfl (by omega)⟩
end Go.Proofs.Ytjiihfdbdbhhaaa
