/-
  Reading a number: the document's.
-/
import Derived.Test.YtjhlodbhchdkbaaGreatDoorDtJ
namespace Go.Proofs.YtjhlodbhchdkbaaGreatDoor
set_option linter.unusedSimpArgs false
set_option linter.unusedVariables false
open Go Go.RowKit Go.Lib Go.Ev

theorem drop_byte (s : ByteArray) (k : Nat) (h : k < s.size) : s.data.toList.drop k = s[k] :: s.data.toList.drop (k + 1) := by
  rw [List.drop_eq_getElem_cons (by simpa using h)]
  rfl
theorem nmD_rng : ∀ (l : List UInt8) (n : Int), 0 ≤ n ∧ n ≤ 10009 → 0 ≤ (nmD n l).1 ∧ (nmD n l).1 ≤ 10009
  | [], n, h => h
  | b :: l, n, h => by
    rw [nmD]
    split
    · rename_i hc
      exact nmD_rng l _ (by omega)
    · exact h
set_option maxRecDepth 100000 in
set_option maxHeartbeats 4000000 in
theorem number_any (s : ByteArray) (a : Nat) (ha : a ≤ s.size) (hs : s.size ≤ 1000000) (w : World) :
    Calls Tryz.prog 20 #[.string s, .int .i64 (a : Int)] w fun e w' => (∃ z : Nat, a ≤ z ∧ z ≤ s.size ∧ (nmD 0 (s.data.toList.drop a)).2 = s.data.toList.drop z ∧ e = .returned (.tuple #[.int .i64 (nmD 0 (s.data.toList.drop a)).1, .int .i64 (z : Int)])) ∧ Below w.heap.size w w' := by
  obtain ⟨R, hR⟩ : ∃ R, nmD 0 (s.data.toList.drop a) = R := ⟨_, rfl⟩
  rw [hR]
  have HR := Lib.hid hR
  clear hR
  go_enter Tryz.func20, Tryz.ntmps20
  go_upto_region 3 with fail
  go_loopw [1, 6, 7] (fun t n i wr => ∃ (k : Nat) (m : Int), a ≤ k ∧ k ≤ s.size ∧ t = .int .i64 (k : Int) ∧ n = .int .i64 m ∧ i = .int .i64 (k : Int) ∧ 0 ≤ m ∧ m ≤ 10009 ∧ nmD m (s.data.toList.drop k) = R ∧ Below w.heap.size w wr) (fun _ _ i _ => s.size - (RowKit.intOf i).toNat)
  case atStart => exact ⟨a, 0, Nat.le_refl _, ha, rfl, rfl, rfl, by omega, by omega, HR.out, Below.refl _ _⟩
  case round =>
    obtain ⟨k, m, hak, hk, rfl, rfl, rfl, m0, m1, hr, hbw⟩ := hrel
    have BW := Lib.hid hbw
    clear hbw
    obtain ⟨W, rfl⟩ : ∃ x, x = wr := ⟨_, rfl⟩
    have z0 : (0 : Int) ≤ (k : Int) := by omega
    by_cases hlt : k < s.size
    · have z1 : (k : Int) < (s.size : Int) := by omega
      have HD := Lib.hid (drop_byte s k hlt)
      by_cases hd : (48 ≤ s[k].toNat ∧ s[k].toNat ≤ 57) ∧ m ≤ 1000
      · have RR := Lib.hid (show nmD (10 * m + ((s[k].toNat : Int) - 48)) (s.data.toList.drop (k + 1)) = R from by
          rw [← hr, HD.out, nmD, if_pos hd])
        obtain ⟨⟨d1, d2⟩, d3⟩ := hd
        have z2 : (48 : Int) ≤ (s[k].toNat : Int) := by omega
        have z3 : (s[k].toNat : Int) ≤ 57 := by omega
        clear hr HD
        go_wp2_with fail
        exact ⟨⟨k + 1, 10 * m + ((s[k].toNat : Int) - 48), by omega, by omega, by go_num, rfl, by go_num, by omega, by omega, RR.out, BW.out⟩, by simp [RowKit.intOf]; omega⟩
      · have RR := Lib.hid (show R = (m, s.data.toList.drop k) from by
          rw [← hr, HD.out, nmD, if_neg hd])
        clear hr HD
        by_cases h48 : (48 : Int) ≤ (s[k].toNat : Int)
        · by_cases h57 : (s[k].toNat : Int) ≤ 57
          · have z4 : ¬ m ≤ 1000 := by omega
            clear hd
            go_wp2_with fail
            go_ret2
            exact ⟨⟨k, hak, hk, by rw [RR.out], by rw [RR.out]; rfl⟩, BW.out⟩
          · clear hd
            go_wp2_with fail
            go_ret2
            exact ⟨⟨k, hak, hk, by rw [RR.out], by rw [RR.out]; rfl⟩, BW.out⟩
        · clear hd
          go_wp2_with fail
          go_ret2
          exact ⟨⟨k, hak, hk, by rw [RR.out], by rw [RR.out]; rfl⟩, BW.out⟩
    · obtain rfl : k = s.size := by omega
      have RR := Lib.hid (show R = (m, s.data.toList.drop s.size) from by
        rw [← hr, List.drop_of_length_le (by simp), nmD])
      clear hr
      go_wp2_with fail
      go_ret2
      exact ⟨⟨s.size, hak, hk, by rw [RR.out], by rw [RR.out]; rfl⟩, BW.out⟩
end Go.Proofs.YtjhlodbhchdkbaaGreatDoor
