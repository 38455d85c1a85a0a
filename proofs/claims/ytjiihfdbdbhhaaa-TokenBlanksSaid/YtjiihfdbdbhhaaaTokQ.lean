/-
  The reader of ints, of the program.
-/
import Derived.Test.YtjiihfdbdbhhaaaTokP
namespace Go.Proofs.Ytjiihfdbdbhhaaa
open Go.RowKit T

def intAt (s t : ByteArray) (k0 : Nat) : Option Rd := if (t.toList == [126, 48]) = true then signT (s.data.toList.drop k0) else if intL t.data.toList = true then some ⟨kInt, t.data.toList, t.size⟩ else none

theorem int_digit {s t : ByteArray} {k0 : Nat} (hlt : k0 < s.size) (hd : diU s[k0] = true) (ht : t.data.toList = (s.data.toList.drop k0).takeWhile diU) : numT (s.data.toList.drop k0) = intAt s t k0 := by
  have hh : t.data.toList = s[k0] :: (s.data.toList.drop (k0 + 1)).takeWhile diU := by
    rw [ht, drop1 s k0 hlt, List.takeWhile_cons, if_pos hd]
  have hne : s[k0] ≠ 126 := by
    intro e; rw [e] at hd; revert hd; decide
  have hsz : t.data.toList.length = t.size := by simp
  have h1 : (t.toList == [126, 48]) = false := by
    rw [Lib.toList_data, hh]
    rw [Bool.eq_false_iff]
    intro e
    have := eq_of_beq e
    simp at this
    exact hne this.1
  have h2 : intL t.data.toList = numL t.data.toList := by
    rw [intL, if_neg]
    rw [hh]
    simpa using hne
  unfold intAt numT
  rw [h1, h2]
  simp only [← ht, hsz, Bool.false_eq_true, if_false]
theorem sign_minus (r : List UInt8) (d : UInt8) (_hd : diU d = true) : signT (126 :: d :: r) = some ⟨kSign, [126], 1⟩ := by
  have h1 : ∀ x, signL [126, x] = false := by intro x; simp [signL]
  have h2 : ∀ x y, signL [126, x, y] = false := by intro x y; simp [signL]
  unfold signT
  have e3 : (decide (3 ≤ (126 :: d :: r).length) && signL ((126 :: d :: r).take 3)) = false := by
    rcases r with _ | ⟨e, r⟩
    · simp
    · simp [h2]
  have e2 : (decide (2 ≤ (126 :: d :: r).length) && signL ((126 :: d :: r).take 2)) = false := by simp [h1]
  rw [e3, e2]
  simp [signL]
theorem int_minus {s t : ByteArray} {k0 : Nat} (hlt : k0 + 1 < s.size) (hm : s[k0] = 126) (hd : diU s[k0 + 1] = true) (ht : t.data.toList = 126 :: (s.data.toList.drop (k0 + 1)).takeWhile diU) : minusT (s.data.toList.drop (k0 + 1)) = intAt s t k0 := by
  have hs : signT (s.data.toList.drop k0) = some ⟨kSign, [126], 1⟩ := by
    rw [drop2 s k0 hlt, hm]
    exact sign_minus _ _ hd
  have hsz : t.data.toList.length = t.size := by simp
  unfold intAt minusT
  rw [hs, Lib.toList_data, ht]
  have e1 : ((126 :: (s.data.toList.drop (k0 + 1)).takeWhile diU) == [126, 48]) = ((s.data.toList.drop (k0 + 1)).takeWhile diU == [48]) := by
    show ((126 : UInt8) == 126 && _) = _
    simp
  rw [e1]
  simp only []
  rcases h : ((s.data.toList.drop (k0 + 1)).takeWhile diU == [48]) with _ | _
  · have e2 : intL (126 :: (s.data.toList.drop (k0 + 1)).takeWhile diU) = numL ((s.data.toList.drop (k0 + 1)).takeWhile diU) := by
      rw [intL, if_pos (by rfl), e1, h]
      rfl
    rw [e2]
    have e3 : t.size = ((s.data.toList.drop (k0 + 1)).takeWhile diU).length + 1 := by rw [← hsz, ht]; rfl
    rw [e3]
  · rfl
theorem ext_cons (s : ByteArray) (a b : Nat) (h : a < b) (hb : b ≤ s.size) : (s.extract a b).data.toList = s[a]'(by omega) :: (s.extract (a + 1) b).data.toList := by
  rw [ext_list, ext_list, drop1 s a (by omega)]
  have : b - a = (b - (a + 1)) + 1 := by omega
  rw [this, List.take_succ_cons]

theorem rdV_tuple (o : Option Rd) (i : Int) : ∃ (K T : ByteArray) (P E : Int) (B : Bool), rdV o i = .tuple #[.agg #[.string K, .string T, .int .i64 P], .int .i64 E, .bool B] := by
  cases o with
  | none => exact ⟨_, _, _, _, _, rfl⟩
  | some r => exact ⟨_, _, _, _, _, rfl⟩

set_option maxHeartbeats 2000000 in
theorem readInt_any (s : ByteArray) (k0 k1 : Nat) (i : Int) (w : World) (R : Option Rd) (hs : s.size ≤ 100000) (hi : i = (k0 : Int)) (hlt0 : k0 < s.size)
    (hR : (k1 = k0 ∧ diU s[k0] = true ∧ R = numT (s.data.toList.drop k0)) ∨ (k1 = k0 + 1 ∧ s[k0] = 126 ∧ (∃ h : k0 + 1 < s.size, diU s[k0 + 1] = true) ∧ R = minusT (s.data.toList.drop (k0 + 1)))) :
    Calls Try.prog 73 #[.string s, .int .i64 i] w fun e w' => e = .returned (rdV R k0) ∧ Below w.heap.size w w' := by
  subst hi
  have hk1 : k1 ≤ k0 + 1 := by omega
  have H := Lib.hid hR
  clear hR
  go_enter Try.func73, Try.ntmps73
  go_wp2_with fail
  go_loop [5] (fun i => ∃ k : Nat, k0 + 1 ≤ k ∧ k ≤ s.size ∧ i = .int .i64 k ∧ Ran diU s k1 k) (fun i => s.size - (intOf i).toNat)
  case atStart =>
    refine ⟨k0 + 1, Nat.le_refl _, by omega, by go_num, ?_⟩
    rcases H.out with ⟨rfl, hd, _⟩ | ⟨rfl, _⟩
    · exact (Ran.start _ _ _).step (Nat.le_refl _) hlt0 hd
    · exact Ran.start _ _ _
  case round =>
    obtain ⟨k, hk0, hk, rfl, hRan⟩ := hrel
    have Q := Lib.hid hRan
    clear hRan
    have hc : (∃ h : k < s.size, diB (s[k].toNat : Int) = true) ∨ (∃ h : k < s.size, diB (s[k].toNat : Int) = false) ∨ ¬ k < s.size := by
      by_cases h : k < s.size
      · rcases hb : diB (s[k].toNat : Int) with _ | _
        · exact .inr (.inl ⟨h, hb⟩)
        · exact .inl ⟨h, hb⟩
      · exact .inr (.inr h)
    rcases hc with ⟨hlt, hb⟩ | ⟨hlt, hb⟩ | hlt
    · go_wp2_with (go_at_call 61; refine (isDigit_any _ _).mono ?_; rintro e w' ⟨rfl, rfl⟩)
      go_round
      case rel => exact ⟨k + 1, by omega, by omega, by go_num, Q.out.step (by omega) hlt hb⟩
      case measure => simp [intOf]; omega
    all_goals
      have TT : Hid (R = intAt s (s.extract k0 k) k0) := by
        have hst : (s.extract k1 k).data.toList = (s.data.toList.drop k1).takeWhile diU := by
          first | exact Q.out.stop hlt hb | exact Q.out.all hlt
        refine Lib.hid ?_
        rcases H.out with ⟨rfl, hd, rfl⟩ | ⟨rfl, hm, ⟨hl1, hd⟩, rfl⟩
        · exact int_digit hlt0 hd hst
        · refine int_minus hl1 hm hd ?_
          rw [ext_cons s k0 k (by omega) hk, hst, hm]
      have hsz := ext_size s k0 k hk
      have HS := Lib.hid hsz
      have hle : (s.extract k0 k).size ≤ maxLen := by rw [hsz]; unfold maxLen; omega
      clear hsz
      rcases hv : ((s.extract k0 k).toList == [126, 48]) with _ | _
      · rcases hp : intL (s.extract k0 k).data.toList with _ | _
        all_goals
          have F := TT.out
          rw [intAt, hv, hp] at F
          simp only [Bool.false_eq_true, if_true, if_false] at F
          have F := Lib.hid F
          clear TT
          have IC := Lib.hid (isInt_any (s.extract k0 k) (w.alloc (Obj.cells #[Value.string { data := #[] }, Value.string { data := #[] }, Value.int IntKind.i64 0] 33)) hle)
          rw [hp] at IC
          go_wp2_with (first | (go_at_call 61; refine (isDigit_any _ _).mono ?_; rintro e w' ⟨rfl, rfl⟩) | (go_at_call 38; refine IC.out.mono ?_; rintro e w' ⟨rfl, rfl⟩))
          go_returns
          rw [F.out]
          refine ⟨?_, (Below.refl _ _).alloc (Nat.le_refl _) _⟩
          first
          | rfl
          | exact congrArg _ (rd_mk rfl _ _ (by have := HS.out; omega))
      · have F := TT.out
        rw [intAt, hv] at F
        simp only [if_true] at F
        have F := Lib.hid F
        clear TT
        go_wp2_with (first | (go_at_call 61; refine (isDigit_any _ _).mono ?_; rintro e w' ⟨rfl, rfl⟩))
        have S := readSign_any s k0 k0 (w.alloc (Obj.cells #[Value.string { data := #[] }, Value.string { data := #[] }, Value.int IntKind.i64 0] 33)) hs rfl hlt0
        obtain ⟨K, T, P, E, B, hV⟩ := rdV_tuple (signT (s.data.toList.drop k0)) k0
        rw [hV] at S
        refine S.mono ?_
        have HV := Lib.hid hV
        clear S hV
        rintro e w' ⟨rfl, hb⟩
        obtain ⟨hc, hf⟩ := bcell hb
        have c0 := hc w.heap.size 0 (by simp)
        have c1 := hc w.heap.size 1 (by simp)
        have c2 := hc w.heap.size 2 (by simp)
        have f0 := hf w.heap.size 0 (by simp)
        have f1 := hf w.heap.size 1 (by simp)
        have f2 := hf w.heap.size 2 (by simp)
        simp only [World.cell?_alloc_new, World.frozen?_alloc_new] at c0 c1 c2 f0 f1 f2
        clear hc hf
        go_wp2_with fail
        try simp only [Exit.inBlock, Exit.then]
        refine bodyPost_ret (by simp [results, Try.results73, go_sem, c0, c1, c2]; try rfl) rfl ?_
        rw [F.out, HV.out]
        exact ⟨rfl, ((((((Below.refl _ _).alloc (Nat.le_refl _) _).trans (hb.mono (by simp))).setCell (Nat.le_refl _) _).setCell (Nat.le_refl _) _).setCell (Nat.le_refl _) _)⟩
end Go.Proofs.Ytjiihfdbdbhhaaa
