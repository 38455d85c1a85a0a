/-
  Digits written: the document's Decimal and the program's Itoa.
-/
import Derived.Laws.BytesArg
import Derived.Lib.AppendIntMem
import Derived.Test.YtjhlodbhchdkbaaGreatDoorShelf
import Derived.Test.YtjhlodbhchdkbaaGreatDoorDtB
namespace Go.Proofs.YtjhlodbhchdkbaaGreatDoor
set_option linter.unusedSimpArgs false
set_option linter.unusedVariables false
open Go Go.RowKit Go.Lib Go.Ev

def st (l : List UInt8) : ByteArray := ⟨l.toArray⟩
theorem st_size (l : List UInt8) : (st l).size = l.length := by simp [st, ByteArray.size]
theorem st_data (l : List UInt8) : (st l).data.toList = l := by simp [st]
theorem st_append (a b : List UInt8) : st (a ++ b) = st a ++ st b := by
  apply ByteArray.ext
  simp [st]
theorem decF_len : ∀ k n, (decF k n).length ≤ k
  | 0, _ => Nat.le_refl _
  | k + 1, n => by
    rw [decF]
    split
    · simp
    · have := decF_len k (n / 10); rw [List.length_append]; simp; omega
theorem dec_len (n : Nat) : (dec n).length ≤ 5 := decF_len 5 n
theorem one_byte (n : Nat) (h : n < 10) (w : World) : (convert 41 9 (.slice (some ⟨w.heap.size, 0, none⟩) 1 1)).run Tryz.prog (w.alloc (.cells #[.int .u8 (48 + (n : Int))] 5)) = .ok (.string (st [UInt8.ofNat (48 + n)])) (w.alloc (.cells #[.int .u8 (48 + (n : Int))] 5)) := by
  have e : st [UInt8.ofNat (48 + n)] = strOfNums [48 + (n : Int)] := by
    unfold st strOfNums
    rw [List.map_cons, List.map_nil, show ((48 : Int) + (n : Int)).toNat = 48 + n by omega]
  rw [e]
  exact run_convert_bytes_arg _ 41 5 Tryz.underlying41 Tryz.underlying5 w.heap.size 0 1 1 [48 + (n : Int)] rfl (fun i hi => by
    obtain rfl : i = 0 := by omega
    simp [World.cell?_alloc_new]) 9 Tryz.underlying9
set_option maxRecDepth 100000 in
set_option maxHeartbeats 2000000 in
theorem dec_small (n : Nat) (h : n < 10) (w : World) : Calls Tryz.prog 17 #[.int .i64 (n : Int)] w fun e w' => e = .returned (.string (st [UInt8.ofNat (48 + n)])) ∧ Below w.heap.size w w' := by
  have z1 : ¬ (n : Int) < 0 := by omega
  have z2 : (n : Int) < 10 := by omega
  have e1 := one_byte n h w
  go_enter Tryz.func17, Tryz.ntmps17
  go_wp2_with fail
  go_ret
  exact ⟨rfl, (Below.refl _ w).alloc (Nat.le_refl _) _⟩
set_option maxRecDepth 100000 in
set_option maxHeartbeats 2000000 in
theorem decF_any : ∀ (k n : Nat), k ≤ 9 → n < 10 ^ (k + 1) → ∀ w : World, Calls Tryz.prog 17 #[.int .i64 (n : Int)] w fun e w' => e = .returned (.string (st (decF (k + 1) n))) ∧ Below w.heap.size w w' := by
  intro k
  induction k with
  | zero =>
    intro n _ h w
    rw [decF, if_pos (by omega)]
    exact dec_small n (by omega) w
  | succ k ih =>
    intro n hk h w
    by_cases h10 : n < 10
    · rw [decF, if_pos h10]
      exact dec_small n h10 w
    · have hq : n / 10 < 10 ^ (k + 1) := by
        rw [Nat.pow_succ] at h
        exact Nat.div_lt_of_lt_mul (by rw [Nat.mul_comm]; exact h)
      have hn : n < 10 ^ 10 := Nat.lt_of_lt_of_le h (Nat.pow_le_pow_right (by decide) (by omega))
      have DA := Lib.hid (fun w1 => ih (n / 10) (by omega) hq w1)
      have DB := Lib.hid (fun w1 => dec_small (n % 10) (by omega) w1)
      have z1 : ¬ (n : Int) < 0 := by omega
      have z2 : ¬ (n : Int) < 10 := by omega
      have HE := Lib.hid (show st (decF (k + 1 + 1) n) = st (decF (k + 1) (n / 10)) ++ st [UInt8.ofNat (48 + n % 10)] from by rw [decF, if_neg h10, st_append])
      have e3 := Lib.hid (show wrap64 ((n : Int) / 10) = ((n / 10 : Nat) : Int) from by unfold wrap64; omega)
      have e4 := Lib.hid (show (n : Int) % 10 = ((n % 10 : Nat) : Int) from by omega)
      have hz : ¬ 9223372036854775807 < (st (decF (k + 1) (n / 10))).size + (st [UInt8.ofNat (48 + n % 10)]).size := by
        rw [st_size, st_size]
        have := decF_len (k + 1) (n / 10)
        simp only [List.length_cons, List.length_nil]
        omega
      rw [HE.out]
      clear h h10 hq hn HE ih
      generalize st (decF (k + 1) (n / 10)) = S1 at *
      generalize st [UInt8.ofNat (48 + n % 10)] = S2 at *
      go_enter Tryz.func17, Tryz.ntmps17
      go_wp2_with (first | (go_at_call 17; rw [e3.out]; refine (DA.out _).mono ?_; rintro e w1 ⟨rfl, hb⟩; have B1 := Lib.hid hb; clear hb DA e3) | (go_at_call 17; rw [e4.out]; refine (DB.out _).mono ?_; rintro e w2 ⟨rfl, hb⟩; have B2 := Lib.hid (B1.out.trans (hb.mono B1.out.size)); clear hb DB e4))
      go_ret
      exact ⟨rfl, B2.out⟩
theorem dec_any {n : Nat} (h : n ≤ 1000) (w : World) : Calls Tryz.prog 17 #[.int .i64 (n : Int)] w fun e w' => e = .returned (.string (st (dec n))) ∧ Below w.heap.size w w' :=
  decF_any 4 n (by decide) (by omega) w
/-- the table that Itoa reads lies as it is laid -/
def PowIn (w : World) : Prop := Lib.TabIs Tryz.prog w "internal/strconv.uint64pow10" .u64 Lib.pow10Tab
theorem itoa_dec : ∀ n, n < 1001 → Lib.itoa ((n : Nat) : Int) = dec n := by decide +kernel
theorem itoa_any {n : Nat} (h : n ≤ 1000) (w : World) (hP : PowIn w) : Calls Tryz.prog 14 #[.int .i64 (n : Int)] w fun e w' => e = .returned (.string (st (dec n))) ∧ Below w.heap.size w w' := by
  refine (Tryz.strconv_Itoa (n : Int) (by omega) (by omega) w hP).mono ?_
  rintro e w' ⟨rfl, k, os, rfl⟩
  rw [itoa_dec n (by omega)]
  exact ⟨rfl, below_grow _ w (Nat.le_refl _) k os⟩
end Go.Proofs.YtjhlodbhchdkbaaGreatDoor
