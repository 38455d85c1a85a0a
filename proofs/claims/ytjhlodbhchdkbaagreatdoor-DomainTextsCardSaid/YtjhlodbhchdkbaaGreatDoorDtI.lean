/-
  A domain's text: of the program.
-/
import Derived.Deep.RegionHeld
import Derived.Deep.CutRange
import Derived.Test.YtjhlodbhchdkbaaGreatDoorDtG
import Derived.Test.YtjhlodbhchdkbaaGreatDoorDtH
namespace Go.Proofs.YtjhlodbhchdkbaaGreatDoor
set_option linter.unusedSimpArgs false
set_option linter.unusedVariables false
open Go Go.RowKit Go.Lib Go.Ev

theorem tailJ_snoc : ∀ (a : List (Int × Int)) (x : Int × Int), tailJ (a ++ [x]) = tailJ a ++ 32 :: rgT x
  | [], x => by show 32 :: (rgT x ++ []) = _; rw [List.append_nil]; rfl
  | y :: a, x => by
    show 32 :: (rgT y ++ tailJ (a ++ [x])) = 32 :: (rgT y ++ tailJ a) ++ 32 :: rgT x
    rw [tailJ_snoc a x]
    simp
theorem jnT_snoc (a : List (Int × Int)) (x : Int × Int) : jnT (a ++ [x]) = jnT a ++ ((if a = [] then [] else [32]) ++ rgT x) := by
  cases a with
  | nil => show rgT x ++ [] = _; rw [List.append_nil]; rfl
  | cons y a =>
    show rgT y ++ tailJ (a ++ [x]) = rgT y ++ tailJ a ++ ((if y :: a = [] then [] else [32]) ++ rgT x)
    rw [tailJ_snoc, if_neg (by simp)]
    simp
theorem jnT_step (d : List (Int × Int)) (k : Nat) (h : k < d.length) (n m : Nat) (e : d[k] = ((n : Int), (m : Int))) :
    jnT (d.take (k + 1)) = jnT (d.take k) ++ ((if k = 0 then [] else [32]) ++ (dec n ++ if n < m then 35 :: dec m else [])) := by
  rw [List.take_add_one, List.getElem?_eq_getElem h, e]
  show jnT (d.take k ++ [_]) = _
  rw [jnT_snoc]
  have e1 : (if d.take k = [] then ([] : List UInt8) else [32]) = if k = 0 then [] else [32] := by
    by_cases hk : k = 0
    · subst hk; rfl
    · rw [if_neg hk, if_neg]
      intro h0
      have := congrArg List.length h0
      rw [List.length_take, List.length_nil] at this
      omega
  rw [e1]
  unfold rgT
  have e2 : ((n : Int) < (m : Int)) ↔ n < m := by omega
  simp only [e2, Int.toNat_natCast]
theorem rgT_len (x : Int × Int) : (rgT x).length ≤ 11 := by
  unfold rgT
  have h1 := dec_len x.1.toNat
  have h2 := dec_len x.2.toNat
  split <;> simp <;> omega
theorem jnT_len (d : List (Int × Int)) : (jnT d).length ≤ 12 * d.length := by
  have ht : ∀ a : List (Int × Int), (tailJ a).length ≤ 12 * a.length := by
    intro a
    induction a with
    | nil => exact Nat.le_refl _
    | cons y a ih =>
      have := rgT_len y
      show (32 :: (rgT y ++ tailJ a)).length ≤ _
      simp only [List.length_cons, List.length_append]
      omega
  cases d with
  | nil => exact Nat.le_refl _
  | cons x r =>
    have h1 := ht r
    have h2 := rgT_len x
    show (rgT x ++ tailJ r).length ≤ _
    simp only [List.length_cons, List.length_append]
    omega
theorem bcL (l : List UInt8) : (Lib.byteCells l).length = l.length := by simp [Lib.byteCells]
theorem bc_app (a b : List UInt8) : Lib.byteCells a ++ Lib.strCells (st b) = Lib.byteCells (a ++ b) := by simp [Lib.byteCells, Lib.strCells, st]
theorem bc_sp (a : List UInt8) : Lib.byteCells a ++ [.int .u8 32] = Lib.byteCells (a ++ [32]) := by simp [Lib.byteCells]
theorem bld_over {B b : Nat} {bs : List Value} {w w' : World} (h : Lib.IsBuilder 43 5 B b bs w) (k : Below w.heap.size w w') : Lib.IsBuilder 43 5 B b bs w' := by
  have go : ∀ p, Lib.BuilderAt 43 5 B b p bs w → Lib.BuilderAt 43 5 B b p bs w' := fun p ⟨h1, v, h2, h3, h4⟩ =>
    ⟨h1, v, (k.block b (Array.getElem?_eq_some_iff.1 h2).1).trans h2, owns_belowX h3 k, h4⟩
  exact h.imp (go _) (go _)
/-- what a text's writer answers -/
def TextRes (d : List (Int × Int)) (w : World) (e : Ending) (w' : World) : Prop :=
  e = .returned (.tuple (if vd 0 d = true then #[.string (st (txD d)), .int .i64 0] else #[.string (st []), .int .i64 2])) ∧ Below w.heap.size w w'
theorem powIn_over {w w' : World} (h : PowIn w) (k : Below w.heap.size w w') : PowIn w' := tabIs_over (g := 0) (by kernel_rfl) h k
set_option maxRecDepth 100000 in
set_option maxHeartbeats 8000000 in
theorem Text_any (d : List (Int × Int)) (A : Option Addr) (c : Nat) (w : World) (ha : Pairs w A d) (hP : PowIn w) :
    Calls Tryz.prog 5 #[.slice A d.length c] w (TextRes d w) := by
  obtain ⟨R, hR⟩ : ∃ R, vd 0 d = R := ⟨_, rfl⟩
  have VP := Valid_p_any d A c w ha
  rw [hR] at VP
  have VP := Lib.hid VP
  cases R with
  | false =>
    have HR := Lib.hid hR
    clear hR
    go_enter Tryz.func5, Tryz.ntmps5
    go_wp2_with (go_at_call 11; refine VP.out.mono ?_; rintro e w1 ⟨rfl, hb1⟩; have HB1 := Lib.hid hb1; clear hb1 VP)
    go_ret2
    unfold TextRes
    rw [HR.out]
    exact ⟨rfl, HB1.out⟩
  | true =>
    by_cases h0 : d = []
    · subst h0
      go_enter Tryz.func5, Tryz.ntmps5
      go_wp2_with (go_at_call 11; refine VP.out.mono ?_; rintro e w1 ⟨rfl, hb1⟩; have HB1 := Lib.hid hb1; clear hb1 VP)
      go_ret2
      exact ⟨rfl, HB1.out⟩
    · have hl : 0 < d.length := List.length_pos_iff.2 h0
      have z0 : ¬ ((d.length : Int) = 0) := by omega
      have zb : ((d.length : Int) == 0) = false := by rw [beq_eq_false_iff_ne]; exact z0
      have hdl : d.length ≤ 1000000 := ha.1
      have HI := Lib.hid (vd_inR d 0 (by decide) hR)
      have HA0 := Lib.hid ha
      have HP0 := Lib.hid hP
      have HR := Lib.hid hR
      clear hR ha hP
      go_enter Tryz.func5, Tryz.ntmps5
      go_upto_region 5 with (go_at_call 11; refine VP.out.mono ?_; rintro e w1 ⟨rfl, hb1⟩; have HB1 := Lib.hid hb1; clear hb1 VP)
      have HA := Lib.hid (HA0.out.over HB1.out)
      have HP := Lib.hid (powIn_over HP0.out HB1.out)
      clear HA0 HP0
      have hz0 := Lib.hid (Lib.fresh_isBuilder 43 5 w1)
      go_upto_region 7 with fail
      go_loopw [15] (fun i wr => ∃ k : Nat, k ≤ d.length ∧ i = .int .i64 k ∧ Lib.IsBuilder 43 5 w1.heap.size w1.heap.size (Lib.byteCells (jnT (d.take k))) wr ∧ Below w1.heap.size w1 wr) (fun i _ => d.length - (RowKit.intOf i).toNat)
      case atStart => exact ⟨0, Nat.zero_le _, rfl, hz0.out, (Below.refl _ _).alloc (Nat.le_refl _) _⟩
      case round =>
        obtain ⟨k, hk, rfl, hbl, hbw⟩ := hrel
        have HB := Lib.hid hbl
        have HW := Lib.hid hbw
        clear hbl hbw
        obtain ⟨W, rfl⟩ : ∃ x, x = wr := ⟨_, rfl⟩
        by_cases hlt : k < d.length
        · obtain ⟨b1, o1, rfl, hb1', g1⟩ := HA.out.2.2 hl
          have x1 := (HW.out.cell (p := ⟨b1, o1 + k * 2, none⟩) hb1').trans (g1 k hlt).1
          have x2 := (HW.out.cell (p := ⟨b1, o1 + k * 2 + 1, none⟩) hb1').trans (g1 k hlt).2
          have hr := HI.out _ (List.getElem_mem hlt)
          have hst := fun (n m : Nat) => jnT_step d k hlt n m
          clear g1
          generalize d[k] = p at *
          obtain ⟨pa, pb⟩ := p
          obtain ⟨r1, r2, r3⟩ := hr
          simp only at x1 x2 r1 r2 r3 hst
          obtain ⟨n, rfl⟩ : ∃ n : Nat, pa = (n : Int) := ⟨pa.toNat, by omega⟩
          obtain ⟨m, rfl⟩ : ∃ m : Nat, pb = (m : Int) := ⟨pb.toNat, by omega⟩
          have HS := Lib.hid (show jnT (d.take (k + 1)) = jnT (d.take k) ++ ((if k = 0 then [] else [32]) ++ (dec n ++ if n < m then 35 :: dec m else [])) from hst n m rfl)
          clear hst
          have z3 : (k : Int) < (d.length : Int) := by omega
          have z4 : (0 : Int) ≤ (k : Int) := by omega
          have hBr : w1.heap.size ≤ W.heap.size := HW.out.size
          have L0 := Lib.hid (show (Lib.byteCells (jnT (d.take k))).length ≤ 12000000 from by rw [bcL]; have h1 := jnT_len (d.take k); rw [List.length_take] at h1; omega)
          have hn : n ≤ 1000 := by omega
          have hm : m ≤ 1000 := by omega
          have ln := Lib.hid (dec_len n)
          have lm := Lib.hid (dec_len m)
          go_upto_region 9 with fail
          have HB0 := Lib.hid (bld_over HB.out ((Below.refl _ W).alloc (Nat.le_refl _) (.cells #[.int .i64 (n : Int), .int .i64 (m : Int)] 38)))
          have HW0 := Lib.hid (HW.out.alloc hBr (.cells #[.int .i64 (n : Int), .int .i64 (m : Int)] 38))
          have HR0 := Lib.hid (World.alloc_heap_new W (.cells #[.int .i64 (n : Int), .int .i64 (m : Int)] 38))
          clear HB HW x1 x2
          generalize W.heap.size = r at *
          generalize (W.alloc (.cells #[.int .i64 (n : Int), .int .i64 (m : Int)] 38)) = X0 at *
          by_cases hk0 : k = 0
          · have HT := Lib.hid (show jnT (d.take (k + 1)) = jnT (d.take k) ++ ([] ++ (dec n ++ if n < m then 35 :: dec m else [])) from by rw [HS.out, if_pos hk0])
            have HJ := Lib.hid (show jnT (d.take k) = [] from by rw [hk0]; rfl)
            have z6 : ¬ (0 : Int) < (k : Int) := by omega
            have z7 : ¬ 0 < k := by omega
            clear HS
            go_upto_region 11 with fail
            by_cases hnm : n < m
            · have HU := Lib.hid (show jnT (d.take (k + 1)) = jnT (d.take k) ++ dec n ++ (35 :: dec m) from by rw [HT.out, if_pos hnm]; simp)
              clear HT
              have z8 : (n : Int) < (m : Int) := by omega
              have a0 := cell2_0 HR0.out
              have a1 := cell2_1 HR0.out
              go_upto_region 12 with (first
                | (go_at_call 14; refine (itoa_any hn _ (powIn_over HP.out (HW0.out.mono (Nat.le_refl _)))).mono ?_; rintro e X1 ⟨rfl, hh⟩; have HB1 := Lib.hid (bld_over HB0.out hh); have HW1 := Lib.hid (HW0.out.trans (hh.mono HW0.out.size)); have HR1 := Lib.hid ((hh.block _ (Array.getElem?_eq_some_iff.1 HR0.out).1).trans HR0.out); clear hh a0 a1 HB0 HW0 HR0)
                | (go_at_call 13; refine (bldStringK w1.heap.size w1.heap.size _ (st (dec n)) _ HB1.out (by show _ + (st (dec n)).size ≤ _; rw [st_size]; have := L0.out; have := ln.out; simp only [bcL, List.length_append, List.length_cons, List.length_nil] at *; omega) HW1.out.size).mono ?_; rintro e X2 ⟨rfl, hh1, hh2, hh3⟩; have HB2 := Lib.hid (show Lib.IsBuilder 43 5 w1.heap.size w1.heap.size (Lib.byteCells (jnT (d.take k) ++ dec n)) X2 from .inr (by have := hh1; rw [bc_app] at this; exact this)); have HW2 := Lib.hid (HW1.out.trans hh2); have HR2 := Lib.hid (hh3 _ _ HR1.out); clear hh1 hh2 hh3 HB1 HW1 HR1))
              have a0 := cell2_0 HR2.out
              have a1 := cell2_1 HR2.out
              have hz : ¬ 9223372036854775807 < 1 + (st (dec m)).size := by rw [st_size]; have := lm.out; omega
              go_upto_region 13 with fail
              have hs1 := Lib.hid (show (⟨#[35]⟩ : ByteArray) ++ st (dec m) = st (35 :: dec m) from (st_append [35] (dec m)).symm)
              go_upto_region 14 with (first
                | (go_at_call 14; refine (itoa_any hm _ (powIn_over HP.out (HW2.out.mono (Nat.le_refl _)))).mono ?_; rintro e X3 ⟨rfl, hh⟩; have HB3 := Lib.hid (bld_over HB2.out hh); have HW3 := Lib.hid (HW2.out.trans (hh.mono HW2.out.size)); have HR3 := Lib.hid ((hh.block _ (Array.getElem?_eq_some_iff.1 HR2.out).1).trans HR2.out); clear hh a0 a1 HB2 HW2 HR2)
                | (go_at_call 13; rw [hs1.out]; refine (bldStringK w1.heap.size w1.heap.size _ (st (35 :: dec m)) _ HB3.out (by show _ + (st (35 :: dec m)).size ≤ _; rw [st_size]; have := L0.out; have := ln.out; have := lm.out; simp only [bcL, List.length_append, List.length_cons, List.length_nil] at *; omega) HW3.out.size).mono ?_; rintro e X4 ⟨rfl, hh1, hh2, hh3⟩; have HB4 := Lib.hid (show Lib.IsBuilder 43 5 w1.heap.size w1.heap.size (Lib.byteCells (jnT (d.take k) ++ dec n ++ (35 :: dec m))) X4 from .inr (by have := hh1; rw [bc_app] at this; exact this)); have HW4 := Lib.hid (HW3.out.trans hh2); have HR4 := Lib.hid (hh3 _ _ HR3.out); clear hh1 hh2 hh3 HB3 HW3 HR3))
              go_wp2_with fail
              go_roundw
              case rel => exact ⟨k + 1, by omega, by go_num, by rw [HU.out]; exact HB4.out, HW4.out⟩
              case measure => simp [RowKit.intOf]; omega
            · have HU := Lib.hid (show jnT (d.take (k + 1)) = jnT (d.take k) ++ dec n from by rw [HT.out, if_neg hnm]; simp)
              clear HT
              have z8 : ¬ (n : Int) < (m : Int) := by omega
              have a0 := cell2_0 HR0.out
              have a1 := cell2_1 HR0.out
              go_upto_region 12 with (first
                | (go_at_call 14; refine (itoa_any hn _ (powIn_over HP.out (HW0.out.mono (Nat.le_refl _)))).mono ?_; rintro e X1 ⟨rfl, hh⟩; have HB1 := Lib.hid (bld_over HB0.out hh); have HW1 := Lib.hid (HW0.out.trans (hh.mono HW0.out.size)); have HR1 := Lib.hid ((hh.block _ (Array.getElem?_eq_some_iff.1 HR0.out).1).trans HR0.out); clear hh a0 a1 HB0 HW0 HR0)
                | (go_at_call 13; refine (bldStringK w1.heap.size w1.heap.size _ (st (dec n)) _ HB1.out (by show _ + (st (dec n)).size ≤ _; rw [st_size]; have := L0.out; have := ln.out; simp only [bcL, List.length_append, List.length_cons, List.length_nil] at *; omega) HW1.out.size).mono ?_; rintro e X2 ⟨rfl, hh1, hh2, hh3⟩; have HB2 := Lib.hid (show Lib.IsBuilder 43 5 w1.heap.size w1.heap.size (Lib.byteCells (jnT (d.take k) ++ dec n)) X2 from .inr (by have := hh1; rw [bc_app] at this; exact this)); have HW2 := Lib.hid (HW1.out.trans hh2); have HR2 := Lib.hid (hh3 _ _ HR1.out); clear hh1 hh2 hh3 HB1 HW1 HR1))
              have a0 := cell2_0 HR2.out
              have a1 := cell2_1 HR2.out
              go_wp2_with fail
              go_roundw
              case rel => exact ⟨k + 1, by omega, by go_num, by rw [HU.out]; exact HB2.out, HW2.out⟩
              case measure => simp [RowKit.intOf]; omega
          · have HT := Lib.hid (show jnT (d.take (k + 1)) = jnT (d.take k) ++ ([32] ++ (dec n ++ if n < m then 35 :: dec m else [])) from by rw [HS.out, if_neg hk0])
            have z6 : (0 : Int) < (k : Int) := by omega
            have z7 : 0 < k := by omega
            clear HS
            go_upto_region 11 with
              (go_at_call 12; refine (bldByteK w1.heap.size w1.heap.size _ 32 _ HB0.out (by have := L0.out; omega) HW0.out.size).mono ?_; rintro e X1 ⟨rfl, hh1, hh2, hh3⟩; have HB1 := Lib.hid (show Lib.IsBuilder 43 5 w1.heap.size w1.heap.size (Lib.byteCells (jnT (d.take k) ++ [32])) X1 from .inr (by have := hh1; rw [bc_sp] at this; exact this)); have HW1 := Lib.hid (HW0.out.trans hh2); have HR1 := Lib.hid (hh3 _ _ HR0.out); clear hh1 hh2 hh3 HB0 HW0 HR0)
            by_cases hnm : n < m
            · have HU := Lib.hid (show jnT (d.take (k + 1)) = jnT (d.take k) ++ [32] ++ dec n ++ (35 :: dec m) from by rw [HT.out, if_pos hnm]; simp)
              clear HT
              have z8 : (n : Int) < (m : Int) := by omega
              have a0 := cell2_0 HR1.out
              have a1 := cell2_1 HR1.out
              go_upto_region 12 with (first
                | (go_at_call 14; refine (itoa_any hn _ (powIn_over HP.out (HW1.out.mono (Nat.le_refl _)))).mono ?_; rintro e X2 ⟨rfl, hh⟩; have HB2 := Lib.hid (bld_over HB1.out hh); have HW2 := Lib.hid (HW1.out.trans (hh.mono HW1.out.size)); have HR2 := Lib.hid ((hh.block _ (Array.getElem?_eq_some_iff.1 HR1.out).1).trans HR1.out); clear hh a0 a1 HB1 HW1 HR1)
                | (go_at_call 13; refine (bldStringK w1.heap.size w1.heap.size _ (st (dec n)) _ HB2.out (by show _ + (st (dec n)).size ≤ _; rw [st_size]; have := L0.out; have := ln.out; simp only [bcL, List.length_append, List.length_cons, List.length_nil] at *; omega) HW2.out.size).mono ?_; rintro e X3 ⟨rfl, hh1, hh2, hh3⟩; have HB3 := Lib.hid (show Lib.IsBuilder 43 5 w1.heap.size w1.heap.size (Lib.byteCells (jnT (d.take k) ++ [32] ++ dec n)) X3 from .inr (by have := hh1; rw [bc_app] at this; exact this)); have HW3 := Lib.hid (HW2.out.trans hh2); have HR3 := Lib.hid (hh3 _ _ HR2.out); clear hh1 hh2 hh3 HB2 HW2 HR2))
              have a0 := cell2_0 HR3.out
              have a1 := cell2_1 HR3.out
              have hz : ¬ 9223372036854775807 < 1 + (st (dec m)).size := by rw [st_size]; have := lm.out; omega
              go_upto_region 13 with fail
              have hs1 := Lib.hid (show (⟨#[35]⟩ : ByteArray) ++ st (dec m) = st (35 :: dec m) from (st_append [35] (dec m)).symm)
              go_upto_region 14 with (first
                | (go_at_call 14; refine (itoa_any hm _ (powIn_over HP.out (HW3.out.mono (Nat.le_refl _)))).mono ?_; rintro e X4 ⟨rfl, hh⟩; have HB4 := Lib.hid (bld_over HB3.out hh); have HW4 := Lib.hid (HW3.out.trans (hh.mono HW3.out.size)); have HR4 := Lib.hid ((hh.block _ (Array.getElem?_eq_some_iff.1 HR3.out).1).trans HR3.out); clear hh a0 a1 HB3 HW3 HR3)
                | (go_at_call 13; rw [hs1.out]; refine (bldStringK w1.heap.size w1.heap.size _ (st (35 :: dec m)) _ HB4.out (by show _ + (st (35 :: dec m)).size ≤ _; rw [st_size]; have := L0.out; have := ln.out; have := lm.out; simp only [bcL, List.length_append, List.length_cons, List.length_nil] at *; omega) HW4.out.size).mono ?_; rintro e X5 ⟨rfl, hh1, hh2, hh3⟩; have HB5 := Lib.hid (show Lib.IsBuilder 43 5 w1.heap.size w1.heap.size (Lib.byteCells (jnT (d.take k) ++ [32] ++ dec n ++ (35 :: dec m))) X5 from .inr (by have := hh1; rw [bc_app] at this; exact this)); have HW5 := Lib.hid (HW4.out.trans hh2); have HR5 := Lib.hid (hh3 _ _ HR4.out); clear hh1 hh2 hh3 HB4 HW4 HR4))
              go_wp2_with fail
              go_roundw
              case rel => exact ⟨k + 1, by omega, by go_num, by rw [HU.out]; exact HB5.out, HW5.out⟩
              case measure => simp [RowKit.intOf]; omega
            · have HU := Lib.hid (show jnT (d.take (k + 1)) = jnT (d.take k) ++ [32] ++ dec n from by rw [HT.out, if_neg hnm]; simp)
              clear HT
              have z8 : ¬ (n : Int) < (m : Int) := by omega
              have a0 := cell2_0 HR1.out
              have a1 := cell2_1 HR1.out
              go_upto_region 12 with (first
                | (go_at_call 14; refine (itoa_any hn _ (powIn_over HP.out (HW1.out.mono (Nat.le_refl _)))).mono ?_; rintro e X2 ⟨rfl, hh⟩; have HB2 := Lib.hid (bld_over HB1.out hh); have HW2 := Lib.hid (HW1.out.trans (hh.mono HW1.out.size)); have HR2 := Lib.hid ((hh.block _ (Array.getElem?_eq_some_iff.1 HR1.out).1).trans HR1.out); clear hh a0 a1 HB1 HW1 HR1)
                | (go_at_call 13; refine (bldStringK w1.heap.size w1.heap.size _ (st (dec n)) _ HB2.out (by show _ + (st (dec n)).size ≤ _; rw [st_size]; have := L0.out; have := ln.out; simp only [bcL, List.length_append, List.length_cons, List.length_nil] at *; omega) HW2.out.size).mono ?_; rintro e X3 ⟨rfl, hh1, hh2, hh3⟩; have HB3 := Lib.hid (show Lib.IsBuilder 43 5 w1.heap.size w1.heap.size (Lib.byteCells (jnT (d.take k) ++ [32] ++ dec n)) X3 from .inr (by have := hh1; rw [bc_app] at this; exact this)); have HW3 := Lib.hid (HW2.out.trans hh2); have HR3 := Lib.hid (hh3 _ _ HR2.out); clear hh1 hh2 hh3 HB2 HW2 HR2))
              have a0 := cell2_0 HR3.out
              have a1 := cell2_1 HR3.out
              go_wp2_with fail
              go_roundw
              case rel => exact ⟨k + 1, by omega, by go_num, by rw [HU.out]; exact HB3.out, HW3.out⟩
              case measure => simp [RowKit.intOf]; omega
        · obtain rfl : k = d.length := by omega
          have HT := Lib.hid (show d.take d.length = d from List.take_length)
          go_wp2_with (go_at_call 15; refine (Tryz.Builder_String_any w1.heap.size w1.heap.size (jnT d) _ (by have := HB.out; rw [HT.out] at this; exact this) HW.out.size).mono ?_; rintro e w9 ⟨rfl, hb9⟩; have HW9 := Lib.hid (HW.out.trans hb9); clear hb9 HB)
          go_ret2
          unfold TextRes
          rw [HR.out]
          refine ⟨?_, HB1.out.trans (HW9.out.mono HB1.out.size)⟩
          rw [if_pos rfl, show txD d = jnT d from by unfold txD; rw [if_neg h0]]
          rfl
end Go.Proofs.YtjhlodbhchdkbaaGreatDoor
