/-
  Numbers' digits: the document's.
-/
import Derived.Test.YtcbjkclajkjicaaGreatDoorRows
import Derived.Handy
import Derived.Lib.Hide
import Derived.IntWalk
import Derived.WalkLawsBesides
import Derived.Deep.QuietTactic
import Derived.BigQuiet
import Derived.WalkSmall
import Derived.OneCell
import Derived.Below
import Derived.Laws.BytesArg
import Derived.Test.YtcbjkclajkjicaaGreatDoorDsZ
import Derived.Deep.RegionHeld
import Derived.Deep.CutRange
namespace Go.Proofs.YtcbjkclajkjicaaGreatDoor
set_option linter.unusedSimpArgs false
set_option linter.unusedVariables false
open Go Go.RowKit Go.Lib

/-- the digits of a number below a hundred -/
def digX (n : Nat) : List Int := if n < 10 then [48 + (n : Int)] else [48 + ((n / 10 : Nat) : Int), 48 + ((n % 10 : Nat) : Int)]
def numB (n : Nat) : ByteArray := strOfNums (digX n)
theorem digs_length (n : Nat) : (digX n).length ≤ 2 := by unfold digX; split <;> simp
theorem numB_size (n : Nat) : (numB n).size ≤ 2 := by unfold numB; rw [strOfNums_size]; exact digs_length n
theorem one_byte (n : Nat) (w : World) : (convert 69 9 (.slice (some ⟨w.heap.size, 0, none⟩) 1 1)).run Tryz.prog (w.alloc (.cells #[.int .u8 (48 + (n : Int))] 5)) = .ok (.string (strOfNums [48 + (n : Int)])) (w.alloc (.cells #[.int .u8 (48 + (n : Int))] 5)) :=
  run_convert_bytes_arg _ 69 5 Tryz.underlying69 Tryz.underlying5 w.heap.size 0 1 1 [48 + (n : Int)] rfl (fun i hi => by
    obtain rfl : i = 0 := by omega
    simp [World.cell?_alloc_new]) 9 Tryz.underlying9
set_option maxRecDepth 100000 in
set_option maxHeartbeats 2000000 in
theorem dec_small (n : Nat) (h : n < 10) (w : World) : Calls Tryz.prog 18 #[.int .i64 (n : Int)] w fun e w' => e = .returned (.string (numB n)) ∧ Below w.heap.size w w' := by
  have z1 : ¬ (n : Int) < 0 := by omega
  have z2 : (n : Int) < 10 := by omega
  have e1 := one_byte n w
  have HE := Lib.hid (show numB n = strOfNums [48 + (n : Int)] from by unfold numB digX; rw [if_pos h])
  go_enter Tryz.func18, Tryz.ntmps18
  go_wp2_with fail
  go_ret
  exact ⟨by rw [HE.out]; rfl, (Below.refl _ w).alloc (Nat.le_refl _) _⟩
theorem strOfNums_append (xs ys : List Int) : strOfNums (xs ++ ys) = strOfNums xs ++ strOfNums ys := by
  apply ByteArray.ext
  apply Array.toList_inj.1
  rw [ByteArray.data_append, Array.toList_append, strOfNums_data, strOfNums_data, strOfNums_data, List.map_append]
set_option maxRecDepth 100000 in
set_option maxHeartbeats 2000000 in
theorem dec_any (n : Nat) (h : n < 100) (w : World) : Calls Tryz.prog 18 #[.int .i64 (n : Int)] w fun e w' => e = .returned (.string (numB n)) ∧ Below w.heap.size w w' := by
  by_cases h10 : n < 10
  · exact dec_small n h10 w
  have DA := Lib.hid (fun w1 => dec_small (n / 10) (by omega) w1)
  have DB := Lib.hid (fun w1 => dec_small (n % 10) (by omega) w1)
  have z1 : ¬ (n : Int) < 0 := by omega
  have z2 : ¬ (n : Int) < 10 := by omega
  have HE := Lib.hid (show numB n = numB (n / 10) ++ numB (n % 10) from by
    unfold numB digX
    rw [if_neg h10, if_pos (show n / 10 < 10 by omega), if_pos (show n % 10 < 10 by omega), ← strOfNums_append]
    rfl)
  have e3 := Lib.hid (show wrap64 ((n : Int) / 10) = ((n / 10 : Nat) : Int) from by unfold wrap64; omega)
  have e4 := Lib.hid (show (n : Int) % 10 = ((n % 10 : Nat) : Int) from by omega)
  have hq : ¬ 9223372036854775807 < (numB (n / 10)).size + (numB (n % 10)).size := by have := numB_size (n / 10); have := numB_size (n % 10); omega
  clear h h10
  go_enter Tryz.func18, Tryz.ntmps18
  go_wp2_with (first | (go_at_call 18; rw [e3.out]; refine (DA.out _).mono ?_; rintro e w1 ⟨rfl, hb⟩; have B1 := Lib.hid hb; clear hb DA e3) | (go_at_call 18; rw [e4.out]; refine (DB.out _).mono ?_; rintro e w2 ⟨rfl, hb⟩; have B2 := Lib.hid (B1.out.trans (hb.mono B1.out.size)); clear hb DB e4))
  go_ret
  exact ⟨by rw [HE.out]; rfl, B2.out⟩
end Go.Proofs.YtcbjkclajkjicaaGreatDoor

/-
  A list in braces: the document's.
-/
namespace Go.Proofs.YtcbjkclajkjicaaGreatDoor
set_option linter.unusedSimpArgs false
set_option linter.unusedVariables false
open Go Go.RowKit Go.Lib

/-- the bytes of a list in braces, up to its k-th number -/
def textK (l : List Int) (k : Nat) : List Int := (List.range k).foldl (fun a i => a ++ ((if i = 0 then [] else [32]) ++ digX (l.getD i 0).toNat)) [123]
theorem textK_succ (l : List Int) (k : Nat) : textK l (k + 1) = textK l k ++ ((if k = 0 then [] else [32]) ++ digX (l.getD k 0).toNat) := by
  unfold textK
  rw [List.range_succ, List.foldl_append]
  rfl
theorem textK_length (l : List Int) : ∀ k, (textK l k).length ≤ 1 + 3 * k
  | 0 => Nat.le_refl _
  | k + 1 => by
    rw [textK_succ, List.length_append, List.length_append]
    have h1 := textK_length l k
    have h2 := digs_length (l.getD k 0).toNat
    have h3 : (if k = 0 then ([] : List Int) else [32]).length ≤ 1 := by split <;> simp
    omega
/-- the bytes of a list in braces -/
def listT (l : List Int) : List Int := textK l l.length ++ [125]
set_option maxRecDepth 100000 in
set_option maxHeartbeats 8000000 in
theorem braces_any (l : List Int) (A : Option Addr) (c : Nat) (w : World) (ha : Ints w A l) (hr : ∀ x ∈ l, 0 ≤ x ∧ x < 100) :
    Calls Tryz.prog 17 #[.slice A l.length c] w fun e w' => e = .returned (.string (strOfNums (listT l))) ∧ Below w.heap.size w w' := by
  have hl1 := ha.1
  have HA := Lib.hid ha
  have HR := Lib.hid hr
  clear ha hr
  go_enter Tryz.func17, Tryz.ntmps17
  go_wp2_with fail
  go_loopw [3, 4] (fun s i wr => ∃ k : Nat, k ≤ l.length ∧ i = .int .i64 k ∧ s = .string (strOfNums (textK l k)) ∧ Below w.heap.size w wr) (fun _ i _ => l.length - (intOf i).toNat)
  case atStart => exact ⟨0, Nat.zero_le _, rfl, rfl, Below.refl _ _⟩
  case round =>
    obtain ⟨k, hk, rfl, rfl, hbw⟩ := hrel
    obtain ⟨w1, rfl⟩ : ∃ x, x = wr := ⟨_, rfl⟩
    have BW := Lib.hid hbw
    clear hbw
    have hsz := textK_length l k
    by_cases hlt : k < l.length
    · obtain ⟨b, o, eA, hb, hc⟩ := HA.out.2.2 (by omega)
      have x1 := (BW.out.cell (p := ⟨b, o + k, none⟩) hb).trans (hc k hlt)
      have hx := HR.out _ (List.getElem_mem hlt)
      have TS := Lib.hid (show textK l (k + 1) = textK l k ++ ((if k = 0 then [] else [32]) ++ digX (l[k]).toNat) from by
        rw [textK_succ, List.getD_eq_getElem?_getD, List.getElem?_eq_getElem hlt]; rfl)
      have EA := Lib.hid eA
      clear hb hc eA
      generalize l[k] = x at *
      obtain rfl := EA.out
      obtain ⟨n, rfl⟩ : ∃ n : Nat, x = n := ⟨x.toNat, by omega⟩
      rw [Int.toNat_natCast] at TS
      have DC := Lib.hid (fun w1 => dec_any n (by omega) w1)
      have z1 : (k : Int) < (l.length : Int) := by omega
      have z2 : (0 : Int) ≤ (k : Int) := by omega
      have hn2 := numB_size n
      have TX := Lib.hid (strOfNums_size (textK l k))
      have SZ := Lib.hid (show (strOfNums (textK l k)).size ≤ 1 + 3 * l.length from by rw [strOfNums_size]; omega)
      clear hx hsz
      by_cases h0 : k = 0
      · have z3 : ¬ (0 : Int) < (k : Int) := by omega
        have hq : ¬ 9223372036854775807 < (strOfNums (textK l k)).size + (numB n).size := by have := SZ.out; omega
        have T2 := Lib.hid (show strOfNums (textK l (k + 1)) = strOfNums (textK l k) ++ numB n from by rw [TS.out, if_pos h0, List.nil_append, strOfNums_append]; rfl)
        clear h0 TS SZ TX
        generalize strOfNums (textK l k) = S at *
        go_wp2_with (go_at_call 18; refine (DC.out _).mono ?_; rintro e w2 ⟨rfl, hb⟩; have B2 := Lib.hid (BW.out.trans (hb.mono BW.out.size)); clear hb DC)
        go_roundw
        case rel => exact ⟨k + 1, by omega, by go_num, by rw [T2.out], B2.out⟩
        case measure => simp [intOf]; omega
      · have z3 : (0 : Int) < (k : Int) := by omega
        have T2 := Lib.hid (show strOfNums (textK l (k + 1)) = (strOfNums (textK l k) ++ ⟨#[32]⟩) ++ numB n from by rw [TS.out, if_neg h0, strOfNums_append, strOfNums_append, ByteArray.append_assoc]; rfl)
        have hq1 : ¬ 9223372036854775807 < (strOfNums (textK l k)).size + 1 := by have := SZ.out; omega
        have hq : ¬ 9223372036854775807 < (strOfNums (textK l k) ++ ⟨#[32]⟩).size + (numB n).size := by
          have := SZ.out
          have e : (strOfNums (textK l k) ++ ⟨#[32]⟩).size = (strOfNums (textK l k)).size + 1 := by rw [ByteArray.size_append]; rfl
          omega
        clear h0 TS SZ TX
        generalize strOfNums (textK l k) = S at *
        go_wp2_with (go_at_call 18; refine (DC.out _).mono ?_; rintro e w2 ⟨rfl, hb⟩; have B2 := Lib.hid (BW.out.trans (hb.mono BW.out.size)); clear hb DC)
        go_roundw
        case rel => exact ⟨k + 1, by omega, by go_num, by rw [T2.out], B2.out⟩
        case measure => simp [intOf]; omega
    · obtain rfl : k = l.length := by omega
      have hq1 : ¬ 9223372036854775807 < (strOfNums (textK l l.length)).size + 1 := by rw [strOfNums_size]; omega
      have T2 := Lib.hid (show strOfNums (listT l) = strOfNums (textK l l.length) ++ ⟨#[125]⟩ from by unfold listT; rw [strOfNums_append]; rfl)
      clear hsz
      generalize strOfNums (textK l l.length) = S at *
      go_wp2_with fail
      go_ret
      exact ⟨by rw [T2.out]; rfl, BW.out⟩
end Go.Proofs.YtcbjkclajkjicaaGreatDoor

/-
  Numbers' digits: the program's (strconv.Itoa of a number below a hundred).
-/
namespace Go.Proofs.YtcbjkclajkjicaaGreatDoor
set_option linter.unusedSimpArgs false
set_option linter.unusedVariables false
open Go Go.RowKit Go.Lib

set_option maxRecDepth 100000 in
set_option maxHeartbeats 4000000 in
theorem small_any (n : Nat) (h : n < 100) (w : World) : Calls Tryz.prog 89 #[.int .i64 (n : Int)] w fun e w' => e = .returned (.string (numB n)) ∧ w' = w := by
  by_cases h10 : n < 10
  · have z1 : (n : Int) < 10 := by omega
    have z2 : (0 : Int) ≤ (n : Int) := by omega
    have HN := Lib.hid h10
    clear h h10
    go_enter Tryz.func89, Tryz.ntmps89
    go_wp2_with fail
    rw [run_slice_string _ _ _ _ _ _ _ Tryz.underlying9 (by omega) (by omega) (show ((n : Int) + 1) ≤ ((36 : Nat) : Int) by omega)]
    go_wp2_with fail
    go_ret
    refine ⟨congrArg (fun s => Ending.returned (Value.string s)) (?_ : ByteArray.extract _ _ _ = numB n), rfl⟩
    exact (show ∀ m, m < 10 → ByteArray.extract _ m (m + 1) = numB m from by decide +kernel) n HN.out
  · have z1 : ¬ (n : Int) < 10 := by omega
    have z2 : (0 : Int) ≤ (n : Int) := by omega
    have z3 : (n : Int) < 100 := by omega
    have HN := Lib.hid (And.intro h h10)
    clear h h10
    go_enter Tryz.func89, Tryz.ntmps89
    go_wp2_with fail
    rw [run_slice_string _ _ _ _ _ _ _ Tryz.underlying9 (by omega) (by omega) (show ((n : Int) * 2 + 2) ≤ ((200 : Nat) : Int) by omega)]
    go_wp2_with fail
    go_ret
    refine ⟨congrArg (fun s => Ending.returned (Value.string s)) (?_ : ByteArray.extract _ _ _ = numB n), rfl⟩
    exact (show ∀ m, m < 100 → ¬ m < 10 → ByteArray.extract _ (m * 2) (m * 2 + 2) = numB m from by decide +kernel) n HN.out.1 HN.out.2
set_option maxRecDepth 100000 in
set_option maxHeartbeats 4000000 in
theorem formatInt_any (n : Nat) (h : n < 100) (w : World) : Calls Tryz.prog 60 #[.int .i64 (n : Int), .int .i64 10] w fun e w' => e = .returned (.string (numB n)) ∧ w' = w := by
  have SM := Lib.hid (fun w1 => small_any n h w1)
  have z1 : (0 : Int) ≤ (n : Int) := by omega
  have z2 : (n : Int) < 100 := by omega
  clear h
  go_enter Tryz.func60, Tryz.ntmps60
  go_wp2_with (go_at_call 89; refine (SM.out _).mono ?_; rintro e w1 ⟨rfl, rfl⟩; clear SM)
  go_ret
  exact ⟨rfl, rfl⟩
set_option maxHeartbeats 4000000 in
theorem itoa_any (n : Nat) (h : n < 100) (w : World) : Calls Tryz.prog 15 #[.int .i64 (n : Int)] w fun e w' => e = .returned (.string (numB n)) ∧ w' = w := by
  have SM := Lib.hid (fun w1 => formatInt_any n h w1)
  have IT := Lib.hid (show ∀ w1, Calls Tryz.prog 32 #[.int .i64 (n : Int)] w1 fun e w' => e = .returned (.string (numB n)) ∧ w' = w1 from fun w1 => by
    clear h
    go_enter Tryz.func32, Tryz.ntmps32
    go_wp2_with (go_at_call 60; refine (SM.out _).mono ?_; rintro e w2 ⟨rfl, rfl⟩; clear SM)
    go_ret
    exact ⟨rfl, rfl⟩)
  clear h SM
  go_enter Tryz.func15, Tryz.ntmps15
  go_wp2_with (go_at_call 32; refine (IT.out _).mono ?_; rintro e w2 ⟨rfl, rfl⟩; clear IT)
  go_ret
  exact ⟨rfl, rfl⟩
end Go.Proofs.YtcbjkclajkjicaaGreatDoor

/-
  Reading: the document's take.
-/
namespace Go.Proofs.YtcbjkclajkjicaaGreatDoor
set_option linter.unusedSimpArgs false
set_option linter.unusedVariables false
open Go Go.RowKit Go.Lib

/-- a text of bytes -/
def st (l : List UInt8) : ByteArray := ⟨l.toArray⟩
theorem st_size (l : List UInt8) : (st l).size = l.length := by simp [st, ByteArray.size]
theorem st_toList (l : List UInt8) : (st l).toList = l := by
  exact ByteArray.toList_mk l

theorem st_drop (l : List UInt8) (k : Nat) : (st l).extract k l.length = st (l.drop k) := by
  unfold st
  rw [ByteArray.extract_mk, List.take_of_length_le (by simp)]
theorem st_take (l : List UInt8) (k : Nat) : (st l).extract 0 k = st (l.take k) := by
  unfold st
  rw [ByteArray.extract_mk, List.drop_zero, Nat.sub_zero]
theorem st_inj {l m : List UInt8} : st l = st m ↔ l = m := by
  unfold st
  refine ⟨fun h => ?_, fun h => by rw [h]⟩
  have := congrArg (fun b : ByteArray => b.data.toList) h
  simpa using this
/-- what take leaves, and whether it took -/
def takeT (l q : List UInt8) : List UInt8 := if l.take q.length = q then l.drop q.length else l
def takeB (l q : List UInt8) : Bool := decide (l.take q.length = q)
set_option maxRecDepth 100000 in
set_option maxHeartbeats 4000000 in
theorem take_any (l q : List UInt8) (h1 : l.length ≤ 1000000) (h2 : q.length ≤ 1000) (w : World) : Calls Tryz.prog 21 #[.string (st l), .string (st q)] w fun e w' => e = .returned (.tuple #[.string (st (takeT l q)), .bool (takeB l q)]) ∧ w' = w := by
  have s1 := st_size l
  have s2 := st_size q
  by_cases hlen : l.length < q.length
  · have hne : ¬ l.take q.length = q := fun h => by
      have := congrArg List.length h
      rw [List.length_take] at this
      omega
    have T := Lib.hid (show takeT l q = l ∧ takeB l q = false from ⟨if_neg hne, decide_eq_false hne⟩)
    have z1 : ((st l).size : Int) < ((st q).size : Int) := by rw [s1, s2]; omega
    clear hne s1 s2
    go_enter Tryz.func21, Tryz.ntmps21
    go_wp2_with fail
    refine bodyPost_ret (v := .tuple #[.string (st l), .bool false]) (by simp [results, Tryz.results21, go_sem]) rfl ?_
    exact ⟨by rw [T.out.1, T.out.2], rfl⟩
  · have z1 : ¬ ((st l).size : Int) < ((st q).size : Int) := by rw [s1, s2]; omega
    have z2 : ((st q).size : Int) ≤ ((st l).size : Int) := by omega
    have z3 : (st q).size ≤ (st l).size := by omega
    have e1 := Lib.hid (show (st l).extract 0 (st q).size = st (l.take q.length) from by rw [s2]; exact st_take l _)
    have e2 := Lib.hid (show (st l).extract (st q).size (st l).size = st (l.drop q.length) from by rw [s1, s2]; exact st_drop l _)
    have e3 := st_toList q
    have e4 : ((st l).extract 0 (st q).size).toList = l.take q.length := by rw [e1.out, st_toList]
    clear s1 s2 hlen
    by_cases hq : l.take q.length = q
    · have T := Lib.hid (show takeT l q = l.drop q.length ∧ takeB l q = true from ⟨if_pos hq, decide_eq_true hq⟩)
      have hb : (!((st l).extract 0 (st q).size).toList == (st q).toList) = false := by rw [e3, e4, hq]; simp
      clear e3 e4 hq
      go_enter Tryz.func21, Tryz.ntmps21
      go_wp2_with fail
      refine bodyPost_ret (v := .tuple #[.string ((st l).extract (st q).size (st l).size), .bool true]) (by simp [results, Tryz.results21, go_sem]) rfl ?_
      exact ⟨by rw [T.out.1, T.out.2, e2.out], rfl⟩
    · have T := Lib.hid (show takeT l q = l ∧ takeB l q = false from ⟨if_neg hq, decide_eq_false hq⟩)
      have hb : (!((st l).extract 0 (st q).size).toList == (st q).toList) = true := by rw [e3, e4]; simpa using hq
      clear e3 e4 hq
      go_enter Tryz.func21, Tryz.ntmps21
      go_wp2_with fail
      refine bodyPost_ret (v := .tuple #[.string (st l), .bool false]) (by simp [results, Tryz.results21, go_sem]) rfl ?_
      exact ⟨by rw [T.out.1, T.out.2], rfl⟩
end Go.Proofs.YtcbjkclajkjicaaGreatDoor

/-
  Reading: the document's number.
-/
namespace Go.Proofs.YtcbjkclajkjicaaGreatDoor
set_option linter.unusedSimpArgs false
set_option linter.unusedVariables false
open Go Go.RowKit Go.Lib

theorem drewN_below (W : World) (k : Nat) : Below W.heap.size W (W.drewN k) := ⟨rfl, rfl, rfl, Nat.le_refl _, fun _ _ => rfl⟩
/-- at most k digits -/
def rdN : Nat → List UInt8 → Int → Int × List UInt8
  | 0, l, n => (n, l)
  | _ + 1, [], n => (n, [])
  | k + 1, b :: l, n => if 48 ≤ b.toNat ∧ b.toNat ≤ 57 then rdN k l (10 * n + ((b.toNat : Int) - 48)) else (n, b :: l)
set_option maxRecDepth 100000 in
set_option maxHeartbeats 4000000 in
theorem number_any (l : List UInt8) (h1 : l.length ≤ 1000000) (w : World) : Calls Tryz.prog 22 #[.string (st l)] w fun e w' => e = .returned (.tuple #[.int .i64 (rdN 3 l 0).1, .string (st (rdN 3 l 0).2)]) ∧ Below w.heap.size w w' := by
  obtain ⟨R, hR⟩ : ∃ R, rdN 3 l 0 = R := ⟨_, rfl⟩
  rw [hR]
  have HR := Lib.hid hR
  have HL := Lib.hid h1
  clear hR h1
  go_enter Tryz.func22, Tryz.ntmps22
  go_wp2_with fail
  go_loopw [0, 4, 5] (fun s n i wr => ∃ (k : Nat) (m : Int) (q : List UInt8), k ≤ 3 ∧ i = .int .i64 k ∧ n = .int .i64 m ∧ s = .string (st q) ∧ 0 ≤ m ∧ m < 1000 ∧ (k = 0 → m = 0) ∧ (k = 1 → m < 10) ∧ (k = 2 → m < 100) ∧ q.length ≤ l.length ∧ rdN (3 - k) q m = R ∧ Below w.heap.size w wr) (fun _ _ i _ => 3 - (intOf i).toNat)
  case atStart => exact ⟨0, 0, l, by omega, rfl, rfl, rfl, by omega, by omega, fun _ => rfl, fun h => by omega, fun h => by omega, Nat.le_refl _, HR.out, Below.refl _ _⟩
  case round =>
    obtain ⟨k, m, q, hk, rfl, rfl, rfl, m0, m1, m2, m3, m4, hq, hr, hbw⟩ := hrel
    have BW := Lib.hid hbw
    have RR := Lib.hid hr
    have MM := Lib.hid (And.intro m0 (And.intro m1 (And.intro m2 (And.intro m3 m4))))
    have hqs := st_size q
    have HQ := Lib.hid hq
    have hq2 : q.length ≤ 1000000 := Nat.le_trans hq HL.out
    clear hbw hr m1 m2 m3 m4 hq
    by_cases h3 : k = 3
    · subst h3
      have e : R = (m, q) := by rw [← RR.out]; rfl
      have ER := Lib.hid e
      clear e hqs
      go_wp2_with fail
      refine bodyPost_ret (v := .tuple #[.int .i64 m, .string (st q)]) (by simp [results, Tryz.results22, go_sem]) rfl ?_
      exact ⟨by rw [ER.out], BW.out⟩
    · have z1 : (k : Int) < 3 := by omega
      cases q with
      | nil =>
        have e : R = (m, []) := by
          rw [← RR.out]
          obtain ⟨j, hj⟩ : ∃ j, 3 - k = j + 1 := ⟨2 - k, by omega⟩
          rw [hj]; rfl
        have ER := Lib.hid e
        have z2 : (st ([] : List UInt8)).size = 0 := hqs
        clear e hqs
        go_wp2_with fail
        refine bodyPost_ret (v := .tuple #[.int .i64 m, .string (st [])]) (by simp [results, Tryz.results22, go_sem]) rfl ?_
        exact ⟨by rw [ER.out], BW.out⟩
      | cons b q =>
        have z2 : (0 : Int) < ((st (b :: q)).size : Int) := by rw [hqs]; simp
        have hb0 : ∀ h, (st (b :: q))[0]'h = b := fun h => rfl
        have mm : m < 100 := by
          obtain ⟨_, a1, a2, a3, a4⟩ := MM.out
          rcases (show k = 0 ∨ k = 1 ∨ k = 2 by omega) with h | h | h
          · have := a2 h; omega
          · have := a3 h; omega
          · have := a4 h; omega
        have e2 := Lib.hid (show (st (b :: q)).extract 1 (q.length + 1) = st q from st_drop (b :: q) 1)
        have hqq : (st (b :: q)).size = q.length + 1 := hqs
        have HQ2 := Lib.hid (show q.length ≤ l.length from by have := HQ.out; simp at this; omega)
        obtain ⟨j, hj⟩ : ∃ j, 3 - k = j + 1 := ⟨2 - k, by omega⟩
        have HJ := Lib.hid hj
        clear hqs
        by_cases hd : 48 ≤ b.toNat ∧ b.toNat ≤ 57
        · have z4 : (48 : Int) ≤ (b.toNat : Int) := by omega
          have z5 : (b.toNat : Int) ≤ 57 := by omega
          have RN := Lib.hid (show rdN (3 - (k + 1)) q (10 * m + ((b.toNat : Int) - 48)) = R from by
            rw [← RR.out, hj, show 3 - (k + 1) = j by omega]
            show _ = rdN (j + 1) (b :: q) m
            rw [rdN, if_pos hd])
          clear hd hj
          go_upto_region 5 with fail
          go_quiet (fail)
          go_wp2_with fail
          obtain ⟨_, _, a2, a3, a4⟩ := MM.out
          refine ⟨⟨k + 1, 10 * m + ((b.toNat : Int) - 48), q, by omega, by go_num, rfl, by rw [e2.out], by omega, by omega, fun h => by omega, fun h => ?_, fun h => ?_, HQ2.out, RN.out, BW.out.trans ((drewN_below wr _).mono BW.out.size)⟩, ?_⟩
          · have := a2 (by omega); omega
          · have := a3 (by omega); omega
          · simp [intOf]; omega
        · have RN := Lib.hid (show R = (m, b :: q) from by
            rw [← RR.out, hj]
            show rdN (j + 1) (b :: q) m = _
            rw [rdN, if_neg hd])
          by_cases h48 : (48 : Int) ≤ (b.toNat : Int)
          · have z5 : ¬ (b.toNat : Int) ≤ 57 := by omega
            clear hd hj
            go_wp2_with fail
            refine bodyPost_ret (v := .tuple #[.int .i64 m, .string (st (b :: q))]) (by simp [results, Tryz.results22, go_sem]) rfl ?_
            exact ⟨by rw [RN.out], BW.out⟩
          · clear hd hj
            go_wp2_with fail
            refine bodyPost_ret (v := .tuple #[.int .i64 m, .string (st (b :: q))]) (by simp [results, Tryz.results22, go_sem]) rfl ?_
            exact ⟨by rw [RN.out], BW.out⟩
end Go.Proofs.YtcbjkclajkjicaaGreatDoor
