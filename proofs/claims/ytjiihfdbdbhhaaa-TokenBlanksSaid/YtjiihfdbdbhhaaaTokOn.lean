/-
  One token: the document's own answer.
-/
import Derived.Test.YtjiihfdbdbhhaaaTokCh
import Derived.Deep.RegionWith
namespace Go.Proofs.Ytjiihfdbdbhhaaa
open Go.RowKit T

theorem wordT_run {s : ByteArray} {k : Nat} (hlt : k < s.size) : wordT (s.data.toList.drop k) =
    if runN woU s k - k ≤ 60 then some ⟨if upB (s[k].toNat : Int) = true then kVar else if keyL (s.extract k (runN woU s k)).toList = true then kKey else kAtom, (s.extract k (runN woU s k)).data.toList, runN woU s k - k⟩ else none := by
  have h1 := runN_ext woU s k
  have h2 : ((s.data.toList.drop k).takeWhile woU).length = runN woU s k - k := by unfold runN; omega
  have h3 : (s.data.toList.drop k).headD 0 = s[k] := by rw [drop1 s k hlt]; rfl
  unfold wordT
  simp only [Lib.toList_data, h1, h2, h3]

set_option maxHeartbeats 4000000 in
set_option maxRecDepth 100000 in
theorem one_word (s : ByteArray) (k : Nat) (i : Int) (w : World) (hs : s.size ≤ 100000) (hi : i = (k : Int)) (hlt : k < s.size) (hl : (upB (s[k].toNat : Int) || loB (s[k].toNat : Int)) = true) :
    Calls Try.prog 59 #[.string s, .int .i64 i] w (OnePost (wordT (s.data.toList.drop k)) k w) := by
  subst hi
  have HT := Lib.hid (wordT_run hlt)
  have RW := fun wx => run_words s k (k : Int) wx hs rfl (by omega)
  obtain ⟨hr1, hr2⟩ := runN_le woU s k (by omega)
  generalize runN woU s k = e at *
  have RW := Lib.hid RW
  have hes := ext_size s k e hr2
  have hke : (s.extract k e).size ≤ 1000000 := by omega
  clear hes
  rcases hu : upB (s[k].toNat : Int) with _ | _
  · rw [hu] at hl
    have hlo : loB (s[k].toNat : Int) = true := by simpa using hl
    clear hl
    by_cases h60 : e - k ≤ 60
    · have h60' : (e : Int) - (k : Int) ≤ 60 := by omega
      rcases hq : keyL (s.extract k e).toList with _ | _
      all_goals
        have F := HT.out
        rw [if_pos h60, hu, hq] at F
        simp only [Bool.false_eq_true, if_true, if_false] at F
        have F := Lib.hid F
        go_enter Try.func59, Try.ntmps59
        go_wp2_with (first | (go_at_call 51; refine (great_r_any _ _).mono ?_; rintro e w' ⟨rfl, rfl⟩) | (go_at_call 53; refine (small_r_any _ _).mono ?_; rintro e w' ⟨rfl, rfl⟩))
        refine (RW.out _).mono ?_
        rintro e w' ⟨rfl, rfl⟩
        go_wp2_with fail
        go_region
        go_wp2_with (first | (go_at_call 53; refine (small_r_any _ _).mono ?_; rintro e w' ⟨rfl, rfl⟩) | (go_at_call 43; refine (isKey_r_any _ _ hke).mono ?_; rintro e w' ⟨rfl, rfl⟩))
        go_returns
        exact ⟨_, _, _, _, _, rfl, (((Below.refl _ _).alloc (Nat.le_refl _) _).alloc (by simp) _).drew, OneR.yes F.out rfl rfl (by omega)⟩
    · have h60' : ¬ (e : Int) - (k : Int) ≤ 60 := by omega
      have F := HT.out
      rw [if_neg h60] at F
      have F := Lib.hid F
      rcases hq : keyL (s.extract k e).toList with _ | _
      all_goals
        go_enter Try.func59, Try.ntmps59
        go_wp2_with (first | (go_at_call 51; refine (great_r_any _ _).mono ?_; rintro e w' ⟨rfl, rfl⟩) | (go_at_call 53; refine (small_r_any _ _).mono ?_; rintro e w' ⟨rfl, rfl⟩))
        refine (RW.out _).mono ?_
        rintro e w' ⟨rfl, rfl⟩
        go_wp2_with fail
        go_region
        go_wp2_with (first | (go_at_call 53; refine (small_r_any _ _).mono ?_; rintro e w' ⟨rfl, rfl⟩) | (go_at_call 43; refine (isKey_r_any _ _ hke).mono ?_; rintro e w' ⟨rfl, rfl⟩))
        go_returns
        exact ⟨_, _, _, _, _, rfl, (((Below.refl _ _).alloc (Nat.le_refl _) _).alloc (by simp) _).drew, OneR.no F.out (by first | rfl | (simp; omega))⟩
  · have hlo : loB (s[k].toNat : Int) = false := by
      simp only [upB, Bool.and_eq_true, decide_eq_true_eq] at hu
      simp only [loB, Bool.and_eq_false_iff, decide_eq_false_iff_not]
      omega
    clear hl
    by_cases h60 : e - k ≤ 60
    · have h60' : (e : Int) - (k : Int) ≤ 60 := by omega
      have F := HT.out
      rw [if_pos h60, hu] at F
      simp only [if_true] at F
      have F := Lib.hid F
      go_enter Try.func59, Try.ntmps59
      go_wp2_with (first | (go_at_call 51; refine (great_r_any _ _).mono ?_; rintro e w' ⟨rfl, rfl⟩) | (go_at_call 53; refine (small_r_any _ _).mono ?_; rintro e w' ⟨rfl, rfl⟩))
      refine (RW.out _).mono ?_
      rintro e w' ⟨rfl, rfl⟩
      go_wp2_with fail
      go_region
      go_wp2_with (first | (go_at_call 53; refine (small_r_any _ _).mono ?_; rintro e w' ⟨rfl, rfl⟩) | (go_at_call 43; refine (isKey_r_any _ _ hke).mono ?_; rintro e w' ⟨rfl, rfl⟩))
      go_returns
      exact ⟨_, _, _, _, _, rfl, (((Below.refl _ _).alloc (Nat.le_refl _) _).alloc (by simp) _).drew, OneR.yes F.out rfl rfl (by omega)⟩
    · have h60' : ¬ (e : Int) - (k : Int) ≤ 60 := by omega
      have F := HT.out
      rw [if_neg h60] at F
      have F := Lib.hid F
      go_enter Try.func59, Try.ntmps59
      go_wp2_with (first | (go_at_call 51; refine (great_r_any _ _).mono ?_; rintro e w' ⟨rfl, rfl⟩) | (go_at_call 53; refine (small_r_any _ _).mono ?_; rintro e w' ⟨rfl, rfl⟩))
      refine (RW.out _).mono ?_
      rintro e w' ⟨rfl, rfl⟩
      go_wp2_with fail
      go_region
      go_wp2_with (first | (go_at_call 53; refine (small_r_any _ _).mono ?_; rintro e w' ⟨rfl, rfl⟩) | (go_at_call 43; refine (isKey_r_any _ _ hke).mono ?_; rintro e w' ⟨rfl, rfl⟩))
      go_returns
      exact ⟨_, _, _, _, _, rfl, (((Below.refl _ _).alloc (Nat.le_refl _) _).alloc (by simp) _).drew, OneR.no F.out (by first | rfl | (simp; omega))⟩
end Go.Proofs.Ytjiihfdbdbhhaaa
