/-
  One sign; one token: the document's own answer.
-/
import Derived.Test.YtjiihfdbdbhhaaaTokOq
namespace Go.Proofs.Ytjiihfdbdbhhaaa
open Go.RowKit T

set_option maxHeartbeats 4000000 in
set_option maxRecDepth 100000 in
theorem one_sign (s : ByteArray) (k : Nat) (i : Int) (w : World) (hs : s.size ≤ 100000) (hi : i = (k : Int)) (hlt : k < s.size) (ho : Other s k hlt) (q1 : ((s[k].toNat : Int) == 39) = false) (q2 : ((s[k].toNat : Int) == 34) = false) (q3 : ((s[k].toNat : Int) == 38) = false) :
    Calls Try.prog 59 #[.string s, .int .i64 i] w (OnePost (signT (s.data.toList.drop k)) k w) := by
  subst hi
  obtain ⟨hl, hd, h4⟩ := ho
  obtain ⟨hu, hlo⟩ := notLetter hl
  clear hl
  have HF := Lib.hid (sign_from s k (by omega))
  rcases h4 with h4 | ⟨h4, h5 | ⟨h5, h6⟩⟩
  all_goals
    go_enter Try.func59, Try.ntmps59
    go_wp2_with (first | (go_at_call 51; refine (great_r_any _ _).mono ?_; rintro e w' ⟨rfl, rfl⟩) | (go_at_call 53; refine (small_r_any _ _).mono ?_; rintro e w' ⟨rfl, rfl⟩) | (go_at_call 80; refine (digit_r_any _ _).mono ?_; rintro e w' ⟨rfl, rfl⟩))
    go_loop [18] (fun i => ∃ n : Nat, n ≤ 3 ∧ i = .int .i64 n ∧ signT (s.data.toList.drop k) = signFrom s k n) (fun i => (intOf i).toNat)
    case atStart => exact ⟨3, Nat.le_refl _, rfl, HF.out⟩
    case round =>
      obtain ⟨n, hn, rfl, hR⟩ := hrel
      have R := Lib.hid hR
      clear hR
      rcases n with _ | n
      · have F := Lib.hid (show signT (s.data.toList.drop k) = none from R.out)
        go_wp2_with fail
        go_returns
        exact ⟨_, _, _, _, _, rfl, ((Below.refl _ _).alloc (Nat.le_refl _) _).alloc (by simp) _, OneR.no F.out rfl⟩
      · rcases hg : sgB s k (n + 1) with _ | _
        · have F := R.out
          rw [signFrom, hg] at F
          have F := Lib.hid F
          rcases sgB_no hg with h | ⟨h, h'⟩
          · clear R hg
            have h1 : ¬ ((n : Int) + 1 ≤ (s.size : Int) - (k : Int)) := by omega
            go_wp2_with fail
            go_round
            case rel => exact ⟨n, by omega, by congr 1, F.out⟩
            case measure => simp [intOf]
          · clear R hg
            have h1 : (n : Int) + 1 ≤ (s.size : Int) - (k : Int) := by omega
            go_wp2_with (go_at_call 44; refine (isSign_r_any _ _ (by simp; omega)).mono ?_; rintro e w' ⟨rfl, rfl⟩)
            go_round
            case rel => exact ⟨n, by omega, by congr 1, F.out⟩
            case measure => simp [intOf]
        · have F := R.out
          rw [signFrom, hg] at F
          have F := Lib.hid F
          obtain ⟨h, h'⟩ := sgB_le hg
          clear R hg
          have h1 : (n : Int) + 1 ≤ (s.size : Int) - (k : Int) := by omega
          go_wp2_with (go_at_call 44; refine (isSign_r_any _ _ (by simp; omega)).mono ?_; rintro e w' ⟨rfl, rfl⟩)
          go_region
          go_wp2_with fail
          go_returns
          exact ⟨_, _, _, _, _, rfl, (((Below.refl _ _).alloc (Nat.le_refl _) _).alloc (by simp) _).drew, OneR.yes F.out rfl rfl (by omega)⟩

theorem one_any (s : ByteArray) (k : Nat) (w : World) (hs : s.size ≤ 100000) (hlt : k < s.size) :
    Calls Try.prog 59 #[.string s, .int .i64 (k : Int)] w (OnePost (readT (s.data.toList.drop k)) k w) := by
  rcases other_of hlt with ⟨h1, hr⟩ | ⟨h1, h2, k1, h3⟩ | ⟨ho, ⟨q, hr⟩ | ⟨q, hr⟩ | ⟨q, hr⟩ | ⟨q1, q2, q3, hr⟩⟩
  · rw [hr]; exact one_word s k _ w hs rfl hlt h1
  · rcases h2 with h2 | ⟨h2, h4, h5, h6⟩
    · rcases h3 with ⟨_, _, hr⟩ | ⟨_, hm, _, hr⟩
      · rw [hr]; exact one_num s k _ w hs rfl hlt h1 h2
      · exfalso
        rw [hm] at h2
        revert h2; decide
    · rcases h3 with ⟨_, hd, hr⟩ | ⟨_, hm, _, hr⟩
      · exfalso
        have : diB (s[k].toNat : Int) = true := hd
        rw [h2] at this; cases this
      · rw [hr]; exact one_minus s k _ w hs rfl hlt h1 h2 h4 h5 h6
  · rw [hr]; exact one_quote s k _ w hs rfl hlt ho q
  · rw [hr]; exact one_text s k _ w hs rfl hlt ho q
  · rw [hr]; exact one_char s k _ w hs rfl hlt ho q
  · rw [hr]; exact one_sign s k _ w hs rfl hlt ho q1 q2 q3
end Go.Proofs.Ytjiihfdbdbhhaaa
