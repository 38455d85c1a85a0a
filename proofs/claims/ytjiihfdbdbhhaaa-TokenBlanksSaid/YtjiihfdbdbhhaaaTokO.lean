/-
  The readers of words, of the program.
-/
import Derived.Test.YtjiihfdbdbhhaaaTokN
import Derived.Handy
namespace Go.Proofs.Ytjiihfdbdbhhaaa
open Go.RowKit T

theorem rd_mk {t : ByteArray} {k : List UInt8} {b : ByteArray} (hb : b.data.toList = k) (i j : Int) (hj : j = i + (t.size : Int)) :
    (.tuple #[.agg #[.string b, .string t, .int .i64 i], .int .i64 j, .bool true] : Value) = rdV (some ⟨k, t.data.toList, t.size⟩) i := by
  subst hb; subst hj
  simp only [rdV, ← mk_list (rfl : b.data.toList = b.data.toList), ← mk_list (rfl : t.data.toList = t.data.toList)]
theorem ext_size (s : ByteArray) (a b : Nat) (h : b ≤ s.size) : (s.extract a b).size = b - a := by
  simp; omega

set_option maxHeartbeats 2000000 in
theorem readWord_any (s : ByteArray) (k0 : Nat) (i : Int) (w : World) (hs : s.size ≤ 100000) (hi : i = (k0 : Int)) (hlt0 : k0 < s.size) (hl : (upB (s[k0].toNat : Int) || loB (s[k0].toNat : Int)) = true) :
    Calls Try.prog 72 #[.string s, .int .i64 i] w fun e w' => e = .returned (rdV (wordT (s.data.toList.drop k0)) k0) ∧ Below w.heap.size w w' := by
  subst hi
  have HL := Lib.hid hl
  clear hl
  go_enter Try.func72, Try.ntmps72
  go_wp2_with fail
  go_loop [5] (fun i => ∃ k : Nat, k0 ≤ k ∧ k ≤ s.size ∧ i = .int .i64 k ∧ Ran woU s k0 k) (fun i => s.size - (intOf i).toNat)
  case atStart => exact ⟨k0, Nat.le_refl _, by omega, rfl, Ran.start _ _ _⟩
  case round =>
    obtain ⟨k, hk0, hk, rfl, hR⟩ := hrel
    have R := Lib.hid hR
    clear hR
    have hc : (∃ h : k < s.size, woB (s[k].toNat : Int) = true) ∨ (∃ h : k < s.size, woB (s[k].toNat : Int) = false) ∨ ¬ k < s.size := by
      by_cases h : k < s.size
      · rcases hb : woB (s[k].toNat : Int) with _ | _
        · exact .inr (.inl ⟨h, hb⟩)
        · exact .inl ⟨h, hb⟩
      · exact .inr (.inr h)
    rcases hc with ⟨hlt, hb⟩ | ⟨hlt, hb⟩ | hlt
    · go_wp2_with (go_at_call 65; refine (isWordByte_any _ _).mono ?_; rintro e w' ⟨rfl, rfl⟩)
      go_round
      case rel => exact ⟨k + 1, by omega, by omega, by go_num, R.out.step hk0 hlt hb⟩
      case measure => simp [intOf]; omega
    all_goals
      have TT : Hid (wordT (s.data.toList.drop k0) = if varB (s.extract k0 k) = true then some ⟨kVar, (s.extract k0 k).data.toList, (s.extract k0 k).size⟩ else if plainB (s.extract k0 k) = true then some ⟨kAtom, (s.extract k0 k).data.toList, (s.extract k0 k).size⟩ else if keyL (s.extract k0 k).toList = true then some ⟨kKey, (s.extract k0 k).data.toList, (s.extract k0 k).size⟩ else none) := by
        first | exact Lib.hid (word_of hlt0 (R.out.stop hlt hb) HL.out) | exact Lib.hid (word_of hlt0 (R.out.all hlt) HL.out)
      have hsz := ext_size s k0 k hk
      have HS := Lib.hid hsz
      have hle : (s.extract k0 k).size ≤ maxLen := by rw [hsz]; unfold maxLen; omega
      clear hsz
      rcases hv : varB (s.extract k0 k) with _ | _ <;> rcases hp : plainB (s.extract k0 k) with _ | _ <;> rcases hq : keyL (s.extract k0 k).toList with _ | _
      all_goals
        have F := TT.out
        rw [hv, hp, hq] at F
        simp only [Bool.false_eq_true, if_true, if_false] at F
        have F := Lib.hid F
        clear TT
        go_wp2_with (first | (go_at_call 65; refine (isWordByte_any _ _).mono ?_; rintro e w' ⟨rfl, rfl⟩) | (go_at_call 25; refine (IsVar_any _ _ hle).mono ?_; rintro e w' ⟨rfl, rfl⟩) | (go_at_call 27; refine (IsPlain_any _ _ hle).mono ?_; rintro e w' ⟨rfl, rfl⟩) | (go_at_call 39; refine (isKey_any _ _).mono ?_; rintro e w' ⟨rfl, rfl⟩))
        go_returns
        rw [F.out]
        refine ⟨?_, (Below.refl _ _).alloc (Nat.le_refl _) _⟩
        first
        | rfl
        | exact congrArg _ (rd_mk rfl _ _ (by have := HS.out; omega))
end Go.Proofs.Ytjiihfdbdbhhaaa
