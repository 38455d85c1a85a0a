/-
  What the relations part, apart, union, meet and minus do to a row of bounds.
-/
import Derived.StillTailTactics
import Derived.Test.YthakhdbakmlooaaDoorKbF
import Derived.Laws.Bits64
import Derived.Deep.CutRange
namespace Go.Proofs.YthakhdbakmlooaaDoor
set_option linter.unusedSimpArgs false
open Go Go.RowKit Go.Shelf Go.Ev

theorem xor_all {c : Nat} (hc : c < 18446744073709551616) : 18446744073709551615 ^^^ c = 18446744073709551615 - c := by
  have e0 : (18446744073709551615 : Nat) = 2 ^ 64 - (0 + 1) := by decide
  have e : 18446744073709551615 - c = 2 ^ 64 - (c + 1) := by
    have : (2 : Nat) ^ 64 = 18446744073709551616 := by decide
    omega
  refine Nat.eq_of_testBit_eq fun t => ?_
  rw [e, Nat.testBit_two_pow_sub_succ (show c < 2 ^ 64 from hc), Nat.testBit_xor, e0, Nat.testBit_two_pow_sub_succ (by decide), Nat.zero_testBit]
  by_cases ht : t < 64
  · simp [ht]
  · have : c.testBit t = false := Nat.testBit_lt_two_pow (Nat.lt_of_lt_of_le hc (Nat.pow_le_pow_right (n := 2) (by decide) (show 64 ≤ t by omega)))
    simp [ht, this]
theorem xor_u64 (c : Nat) (hc : c < 18446744073709551616) : bits .xor .u64 IntKind.u64.max (c : Int) = ((18446744073709551615 - c : Nat) : Int) := by
  rw [show IntKind.u64.max = ((18446744073709551615 : Nat) : Int) from rfl, bits_xor_u64_nat _ _ (by decide) hc, xor_all hc]
def nt (x : Nat) : Nat := 18446744073709551615 - x
theorem nt_lt (x : Nat) : nt x < 18446744073709551616 := by unfold nt; omega
def intoF (F : Nat → BdV) (x s : Nat) : Nat → BdV := upd F x ⟨(F x).lo ||| s, (F x).hi, (F x).mn, (F x).mx⟩
def outF (F : Nat → BdV) (x s : Nat) : Nat → BdV := upd F x ⟨(F x).lo, sub64 (F x).hi s, (F x).mn, (F x).mx⟩
def leastF (F : Nat → BdV) (x : Nat) (k : Int) : Nat → BdV := upd F x ⟨(F x).lo, (F x).hi, max (F x).mn k, (F x).mx⟩
def mostF (F : Nat → BdV) (x : Nat) (k : Int) : Nat → BdV := upd F x ⟨(F x).lo, (F x).hi, (F x).mn, min (F x).mx k⟩
/-- all sets are words -/
def Bits (F : Nat → BdV) : Prop := ∀ i, (F i).lo < 18446744073709551616 ∧ (F i).hi < 18446744073709551616
theorem Bits.upd {F : Nat → BdV} (h : Bits F) (x : Nat) (b : BdV) (h1 : b.lo < 18446744073709551616) (h2 : b.hi < 18446744073709551616) : Bits (upd F x b) := fun i => by
  by_cases e : i = x
  · rw [e, upd_same]; exact ⟨h1, h2⟩
  · rw [upd_other _ _ e]; exact h i
theorem Bits.into {F : Nat → BdV} (h : Bits F) (x s : Nat) (hs : s < 18446744073709551616) : Bits (intoF F x s) := h.upd x _ (or_lt (h x).1 hs) (h x).2
theorem Bits.out {F : Nat → BdV} (h : Bits F) (x s : Nat) : Bits (outF F x s) := h.upd x _ (h x).1 (sub64_lt (h x).2)
theorem Bits.least {F : Nat → BdV} (h : Bits F) (x : Nat) (k : Int) : Bits (leastF F x k) := h.upd x _ (h x).1 (h x).2
theorem Bits.most {F : Nat → BdV} (h : Bits F) (x : Nat) (k : Int) : Bits (mostF F x k) := h.upd x _ (h x).1 (h x).2
theorem into_F {g N : Nat} {F : Nat → BdV} (x s : Nat) (w : World) (hx : x < N) (h : BRow w g N F) (hB : Bits F) (hs : s < 18446744073709551616) :
    Calls Tryd.prog 47 #[.pointer (some ⟨g, x * 4, none⟩), .int .u64 s] w fun e w' => e = .returned (.tuple #[]) ∧ BRow w' g N (intoF F x s) ∧ Only g w w' :=
  (into_row g N F x _ _ _ _ s w (h.to hx) (hB x).1 hs).mono fun _ _ k => ⟨k.1, k.2.1.2, k.2.2⟩
theorem out_F {g N : Nat} {F : Nat → BdV} (x s : Nat) (w : World) (hx : x < N) (h : BRow w g N F) (hB : Bits F) (hs : s < 18446744073709551616) :
    Calls Tryd.prog 48 #[.pointer (some ⟨g, x * 4, none⟩), .int .u64 s] w fun e w' => e = .returned (.tuple #[]) ∧ BRow w' g N (outF F x s) ∧ Only g w w' :=
  (out_row g N F x _ _ _ _ s w (h.to hx) (hB x).2 hs).mono fun _ _ k => ⟨k.1, k.2.1.2, k.2.2⟩
theorem atLeast_F {g N : Nat} {F : Nat → BdV} (x : Nat) (s : Int) (w : World) (hx : x < N) (h : BRow w g N F) :
    Calls Tryd.prog 49 #[.pointer (some ⟨g, x * 4, none⟩), .int .i64 s] w fun e w' => e = .returned (.tuple #[]) ∧ BRow w' g N (leastF F x s) ∧ Only g w w' :=
  (atLeast_row g N F x _ _ _ _ s w (h.to hx)).mono fun _ _ k => ⟨k.1, k.2.1.2, k.2.2⟩
theorem atMost_F {g N : Nat} {F : Nat → BdV} (x : Nat) (s : Int) (w : World) (hx : x < N) (h : BRow w g N F) :
    Calls Tryd.prog 50 #[.pointer (some ⟨g, x * 4, none⟩), .int .i64 s] w fun e w' => e = .returned (.tuple #[]) ∧ BRow w' g N (mostF F x s) ∧ Only g w w' :=
  (atMost_row g N F x _ _ _ _ s w (h.to hx)).mono fun _ _ k => ⟨k.1, k.2.1.2, k.2.2⟩
theorem into_mx (F : Nat → BdV) (x s i : Nat) : (intoF F x s i).mx = (F i).mx := by
  unfold intoF upd
  split
  · next h => rw [h]
  · rfl
theorem out_mx (F : Nat → BdV) (x s i : Nat) : (outF F x s i).mx = (F i).mx := by
  unfold outF upd
  split
  · next h => rw [h]
  · rfl
def partF (F : Nat → BdV) (x y : Nat) : Nat → BdV :=
  let F1 := intoF F y ((F x).lo)
  let F2 := outF F1 x (nt (F1 y).hi)
  let F3 := mostF F2 x ((F2 y).mx)
  leastF F3 y ((F3 x).mn)
set_option maxRecDepth 100000 in
set_option maxHeartbeats 8000000 in
theorem part_F {g N : Nat} {F : Nat → BdV} (x y : Nat) (w : World) (hx : x < N) (hy : y < N) (h : BRow w g N F) (hB : Bits F) :
    Calls Tryd.prog 91 #[.pointer (some ⟨g, x * 4, none⟩), .pointer (some ⟨g, y * 4, none⟩)] w fun e w' => e = .returned (.tuple #[]) ∧ BRow w' g N (partF F x y) ∧ Only g w w' := by
  have HB0 := Lib.hid hB
  have HR := Lib.hid h
  have OO := Lib.hid (Only.refl g w)
  clear h hB
  go_enter Tryd.func91, Tryd.ntmps91
  have r0 : w.cell? ⟨g, x * 4, none⟩ = some (.int .u64 ((F x).lo : Nat)) := HR.out.cell hx 0 (by decide)
  go_upto_region 1 with (go_at_call 47; refine (into_F y ((F x).lo) _ hy HR.out HB0.out (by first | exact nt_lt _ | exact sub64_lt (HB0.out _).1 | exact sub64_lt (HB0.out _).2 | exact (HB0.out _).1 | exact or_lt (HB0.out _).1 (HB0.out _).1 | exact or_lt (nt_lt _) (nt_lt _) | exact or_lt (nt_lt _) (HB0.out _).1 | exact Nat.lt_of_le_of_lt Nat.and_le_left (nt_lt _) | exact Nat.lt_of_le_of_lt Nat.and_le_left (HB0.out _).1)).mono ?_; rintro e w1 ⟨rfl, hr, ho⟩; replace HR := Lib.hid hr; replace OO := Lib.hid (OO.out.trans ho); clear hr ho)
  clear r0
  have HB1 := Lib.hid (HB0.out.into y ((F x).lo) (by first | exact nt_lt _ | exact sub64_lt (HB0.out _).1 | exact sub64_lt (HB0.out _).2 | exact (HB0.out _).1 | exact or_lt (HB0.out _).1 (HB0.out _).1 | exact or_lt (nt_lt _) (nt_lt _) | exact or_lt (nt_lt _) (HB0.out _).1 | exact Nat.lt_of_le_of_lt Nat.and_le_left (nt_lt _) | exact Nat.lt_of_le_of_lt Nat.and_le_left (HB0.out _).1))
  obtain ⟨F1, hF1⟩ : ∃ Q, intoF F y ((F x).lo) = Q := ⟨_, rfl⟩
  rw [hF1] at HB1 HR
  have r0 : w1.cell? ⟨g, y * 4 + 1, none⟩ = some (.int .u64 ((F1 y).hi : Nat)) := HR.out.cell hy 1 (by decide)
  have E0 := Lib.hid (have B1 := HB1.out; (show bits .xor .u64 IntKind.u64.max ((F1 y).hi : Int) = ((nt (F1 y).hi : Nat) : Int) from xor_u64 (F1 y).hi (B1 y).2))
  go_upto_region 2 with (go_at_call 48; rw [E0.out]; refine (out_F x (nt (F1 y).hi) _ hx HR.out HB1.out (by first | exact nt_lt _ | exact sub64_lt (HB1.out _).1 | exact sub64_lt (HB1.out _).2 | exact (HB1.out _).1 | exact or_lt (HB1.out _).1 (HB1.out _).1 | exact or_lt (nt_lt _) (nt_lt _) | exact or_lt (nt_lt _) (HB1.out _).1 | exact Nat.lt_of_le_of_lt Nat.and_le_left (nt_lt _) | exact Nat.lt_of_le_of_lt Nat.and_le_left (HB1.out _).1)).mono ?_; rintro e w2 ⟨rfl, hr, ho⟩; replace HR := Lib.hid hr; replace OO := Lib.hid (OO.out.trans ho); clear hr ho)
  clear r0 E0
  have HB2 := Lib.hid (HB1.out.out x (nt (F1 y).hi))
  obtain ⟨F2, hF2⟩ : ∃ Q, outF F1 x (nt (F1 y).hi) = Q := ⟨_, rfl⟩
  rw [hF2] at HB2 HR
  have r0 : w2.cell? ⟨g, y * 4 + 3, none⟩ = some (.int .i64 (F2 y).mx) := HR.out.cell hy 3 (by decide)
  go_upto_region 3 with (go_at_call 50; refine (atMost_F x ((F2 y).mx) _ hx HR.out).mono ?_; rintro e w3 ⟨rfl, hr, ho⟩; replace HR := Lib.hid hr; replace OO := Lib.hid (OO.out.trans ho); clear hr ho)
  clear r0
  have HB3 := Lib.hid (HB2.out.most x ((F2 y).mx))
  obtain ⟨F3, hF3⟩ : ∃ Q, mostF F2 x ((F2 y).mx) = Q := ⟨_, rfl⟩
  rw [hF3] at HB3 HR
  have r0 : w3.cell? ⟨g, x * 4 + 2, none⟩ = some (.int .i64 (F3 x).mn) := HR.out.cell hx 2 (by decide)
  go_wp2_with (go_at_call 49; refine (atLeast_F y ((F3 x).mn) _ hy HR.out).mono ?_; rintro e w4 ⟨rfl, hr, ho⟩; replace HR := Lib.hid hr; replace OO := Lib.hid (OO.out.trans ho); clear hr ho)
  clear r0
  have HB4 := Lib.hid (HB3.out.least y ((F3 x).mn))
  obtain ⟨F4, hF4⟩ : ∃ Q, leastF F3 y ((F3 x).mn) = Q := ⟨_, rfl⟩
  rw [hF4] at HB4 HR
  refine bodyPost_end (v := .tuple #[]) (by simp [results, Tryd.results91, go_sem]) rfl ⟨rfl, ?_, OO.out⟩
  have e : partF F x y = F4 := by unfold partF; simp only [hF1, hF2, hF3, hF4]
  rw [e]
  exact HR.out
def apartF (F : Nat → BdV) (x y : Nat) : Nat → BdV :=
  let F1 := outF F x ((F y).lo)
  outF F1 y ((F1 x).lo)
set_option maxRecDepth 100000 in
set_option maxHeartbeats 8000000 in
theorem apart_F {g N : Nat} {F : Nat → BdV} (x y : Nat) (w : World) (hx : x < N) (hy : y < N) (h : BRow w g N F) (hB : Bits F) :
    Calls Tryd.prog 92 #[.pointer (some ⟨g, x * 4, none⟩), .pointer (some ⟨g, y * 4, none⟩)] w fun e w' => e = .returned (.tuple #[]) ∧ BRow w' g N (apartF F x y) ∧ Only g w w' := by
  have HB0 := Lib.hid hB
  have HR := Lib.hid h
  have OO := Lib.hid (Only.refl g w)
  clear h hB
  go_enter Tryd.func92, Tryd.ntmps92
  have r0 : w.cell? ⟨g, y * 4, none⟩ = some (.int .u64 ((F y).lo : Nat)) := HR.out.cell hy 0 (by decide)
  go_upto_region 1 with (go_at_call 48; refine (out_F x ((F y).lo) _ hx HR.out HB0.out (by first | exact nt_lt _ | exact sub64_lt (HB0.out _).1 | exact sub64_lt (HB0.out _).2 | exact (HB0.out _).1 | exact or_lt (HB0.out _).1 (HB0.out _).1 | exact or_lt (nt_lt _) (nt_lt _) | exact or_lt (nt_lt _) (HB0.out _).1 | exact Nat.lt_of_le_of_lt Nat.and_le_left (nt_lt _) | exact Nat.lt_of_le_of_lt Nat.and_le_left (HB0.out _).1)).mono ?_; rintro e w1 ⟨rfl, hr, ho⟩; replace HR := Lib.hid hr; replace OO := Lib.hid (OO.out.trans ho); clear hr ho)
  clear r0
  have HB1 := Lib.hid (HB0.out.out x ((F y).lo))
  obtain ⟨F1, hF1⟩ : ∃ Q, outF F x ((F y).lo) = Q := ⟨_, rfl⟩
  rw [hF1] at HB1 HR
  have r0 : w1.cell? ⟨g, x * 4, none⟩ = some (.int .u64 ((F1 x).lo : Nat)) := HR.out.cell hx 0 (by decide)
  go_wp2_with (go_at_call 48; refine (out_F y ((F1 x).lo) _ hy HR.out HB1.out (by first | exact nt_lt _ | exact sub64_lt (HB1.out _).1 | exact sub64_lt (HB1.out _).2 | exact (HB1.out _).1 | exact or_lt (HB1.out _).1 (HB1.out _).1 | exact or_lt (nt_lt _) (nt_lt _) | exact or_lt (nt_lt _) (HB1.out _).1 | exact Nat.lt_of_le_of_lt Nat.and_le_left (nt_lt _) | exact Nat.lt_of_le_of_lt Nat.and_le_left (HB1.out _).1)).mono ?_; rintro e w2 ⟨rfl, hr, ho⟩; replace HR := Lib.hid hr; replace OO := Lib.hid (OO.out.trans ho); clear hr ho)
  clear r0
  have HB2 := Lib.hid (HB1.out.out y ((F1 x).lo))
  obtain ⟨F2, hF2⟩ : ∃ Q, outF F1 y ((F1 x).lo) = Q := ⟨_, rfl⟩
  rw [hF2] at HB2 HR
  refine bodyPost_end (v := .tuple #[]) (by simp [results, Tryd.results92, go_sem]) rfl ⟨rfl, ?_, OO.out⟩
  have e : apartF F x y = F2 := by unfold apartF; simp only [hF1, hF2]
  rw [e]
  exact HR.out
def unionF (F : Nat → BdV) (x y z : Nat) : Nat → BdV :=
  let F1 := intoF F z (((F x).lo ||| (F y).lo))
  let F2 := outF F1 x (nt (F1 z).hi)
  let F3 := outF F2 y (nt (F2 z).hi)
  let F4 := outF F3 z ((nt (F3 x).hi &&& nt (F3 y).hi))
  let F5 := intoF F4 x ((sub64 (F4 z).lo (F4 y).hi))
  let F6 := intoF F5 y ((sub64 (F5 z).lo (F5 x).hi))
  let F7 := mostF F6 z (((F6 x).mx + (F6 y).mx))
  leastF F7 z ((max (F7 x).mn (F7 y).mn))
set_option maxRecDepth 100000 in
set_option maxHeartbeats 8000000 in
theorem union_F {g N : Nat} {F : Nat → BdV} (x y z : Nat) (w : World) (hx : x < N) (hy : y < N) (hz : z < N) (h : BRow w g N F) (hB : Bits F) (hM : ∀ i, 0 ≤ (F i).mx ∧ (F i).mx ≤ 64) :
    Calls Tryd.prog 93 #[.pointer (some ⟨g, x * 4, none⟩), .pointer (some ⟨g, y * 4, none⟩), .pointer (some ⟨g, z * 4, none⟩)] w fun e w' => e = .returned (.tuple #[]) ∧ BRow w' g N (unionF F x y z) ∧ Only g w w' := by
  have HB0 := Lib.hid hB
  have HR := Lib.hid h
  have OO := Lib.hid (Only.refl g w)
  have HM := Lib.hid hM
  clear hM
  clear h hB
  go_enter Tryd.func93, Tryd.ntmps93
  go_wp2_with fail
  have r0 : w.cell? ⟨g, x * 4, none⟩ = some (.int .u64 ((F x).lo : Nat)) := HR.out.cell hx 0 (by decide)
  have r1 : w.cell? ⟨g, y * 4, none⟩ = some (.int .u64 ((F y).lo : Nat)) := HR.out.cell hy 0 (by decide)
  have E0 := Lib.hid (have B0 := HB0.out; bits_or_u64_nat (F x).lo (F y).lo (B0 x).1 (B0 y).1)
  go_still_tail 10, (by kernel_rfl)
  change wpList _ _ _ _ _ w.drew
  have HR2 := Lib.hid (show BRow w.drew g N F from HR.out)
  have OO2 := Lib.hid OO.out.drew
  clear HR OO
  have HR := HR2
  have OO := OO2
  clear HR2 OO2
  generalize w.drew = wd at *
  go_upto_region 1 with (go_at_call 47; rw [E0.out]; refine (into_F z (((F x).lo ||| (F y).lo)) _ hz HR.out HB0.out (by first | exact nt_lt _ | exact sub64_lt (HB0.out _).1 | exact sub64_lt (HB0.out _).2 | exact (HB0.out _).1 | exact or_lt (HB0.out _).1 (HB0.out _).1 | exact or_lt (nt_lt _) (nt_lt _) | exact or_lt (nt_lt _) (HB0.out _).1 | exact Nat.lt_of_le_of_lt Nat.and_le_left (nt_lt _) | exact Nat.lt_of_le_of_lt Nat.and_le_left (HB0.out _).1)).mono ?_; rintro e w1 ⟨rfl, hr, ho⟩; replace HR := Lib.hid hr; replace OO := Lib.hid (OO.out.trans ho); clear hr ho)
  clear r0 r1 E0
  have HB1 := Lib.hid (HB0.out.into z (((F x).lo ||| (F y).lo)) (by first | exact nt_lt _ | exact sub64_lt (HB0.out _).1 | exact sub64_lt (HB0.out _).2 | exact (HB0.out _).1 | exact or_lt (HB0.out _).1 (HB0.out _).1 | exact or_lt (nt_lt _) (nt_lt _) | exact or_lt (nt_lt _) (HB0.out _).1 | exact Nat.lt_of_le_of_lt Nat.and_le_left (nt_lt _) | exact Nat.lt_of_le_of_lt Nat.and_le_left (HB0.out _).1))
  obtain ⟨F1, hF1⟩ : ∃ Q, intoF F z (((F x).lo ||| (F y).lo)) = Q := ⟨_, rfl⟩
  rw [hF1] at HB1 HR
  have r0 : w1.cell? ⟨g, z * 4 + 1, none⟩ = some (.int .u64 ((F1 z).hi : Nat)) := HR.out.cell hz 1 (by decide)
  have E0 := Lib.hid (have B1 := HB1.out; (show bits .xor .u64 IntKind.u64.max ((F1 z).hi : Int) = ((nt (F1 z).hi : Nat) : Int) from xor_u64 (F1 z).hi (B1 z).2))
  go_upto_region 2 with (go_at_call 48; rw [E0.out]; refine (out_F x (nt (F1 z).hi) _ hx HR.out HB1.out (by first | exact nt_lt _ | exact sub64_lt (HB1.out _).1 | exact sub64_lt (HB1.out _).2 | exact (HB1.out _).1 | exact or_lt (HB1.out _).1 (HB1.out _).1 | exact or_lt (nt_lt _) (nt_lt _) | exact or_lt (nt_lt _) (HB1.out _).1 | exact Nat.lt_of_le_of_lt Nat.and_le_left (nt_lt _) | exact Nat.lt_of_le_of_lt Nat.and_le_left (HB1.out _).1)).mono ?_; rintro e w2 ⟨rfl, hr, ho⟩; replace HR := Lib.hid hr; replace OO := Lib.hid (OO.out.trans ho); clear hr ho)
  clear r0 E0
  have HB2 := Lib.hid (HB1.out.out x (nt (F1 z).hi))
  obtain ⟨F2, hF2⟩ : ∃ Q, outF F1 x (nt (F1 z).hi) = Q := ⟨_, rfl⟩
  rw [hF2] at HB2 HR
  have r0 : w2.cell? ⟨g, z * 4 + 1, none⟩ = some (.int .u64 ((F2 z).hi : Nat)) := HR.out.cell hz 1 (by decide)
  have E0 := Lib.hid (have B2 := HB2.out; (show bits .xor .u64 IntKind.u64.max ((F2 z).hi : Int) = ((nt (F2 z).hi : Nat) : Int) from xor_u64 (F2 z).hi (B2 z).2))
  go_upto_region 3 with (go_at_call 48; rw [E0.out]; refine (out_F y (nt (F2 z).hi) _ hy HR.out HB2.out (by first | exact nt_lt _ | exact sub64_lt (HB2.out _).1 | exact sub64_lt (HB2.out _).2 | exact (HB2.out _).1 | exact or_lt (HB2.out _).1 (HB2.out _).1 | exact or_lt (nt_lt _) (nt_lt _) | exact or_lt (nt_lt _) (HB2.out _).1 | exact Nat.lt_of_le_of_lt Nat.and_le_left (nt_lt _) | exact Nat.lt_of_le_of_lt Nat.and_le_left (HB2.out _).1)).mono ?_; rintro e w3 ⟨rfl, hr, ho⟩; replace HR := Lib.hid hr; replace OO := Lib.hid (OO.out.trans ho); clear hr ho)
  clear r0 E0
  have HB3 := Lib.hid (HB2.out.out y (nt (F2 z).hi))
  obtain ⟨F3, hF3⟩ : ∃ Q, outF F2 y (nt (F2 z).hi) = Q := ⟨_, rfl⟩
  rw [hF3] at HB3 HR
  have r0 : w3.cell? ⟨g, x * 4 + 1, none⟩ = some (.int .u64 ((F3 x).hi : Nat)) := HR.out.cell hx 1 (by decide)
  have r1 : w3.cell? ⟨g, y * 4 + 1, none⟩ = some (.int .u64 ((F3 y).hi : Nat)) := HR.out.cell hy 1 (by decide)
  have E0 := Lib.hid (have B3 := HB3.out; (show bits .xor .u64 IntKind.u64.max ((F3 x).hi : Int) = ((nt (F3 x).hi : Nat) : Int) from xor_u64 (F3 x).hi (B3 x).2))
  have E1 := Lib.hid (have B3 := HB3.out; (show bits .xor .u64 IntKind.u64.max ((F3 y).hi : Int) = ((nt (F3 y).hi : Nat) : Int) from xor_u64 (F3 y).hi (B3 y).2))
  have E2 := Lib.hid (have B3 := HB3.out; bits_and_u64_nat (nt (F3 x).hi) (nt (F3 y).hi) (nt_lt _) (nt_lt _))
  go_still_tail 12, (by kernel_rfl)
  change wpList _ _ _ _ _ w3.drew
  have HR2 := Lib.hid (show BRow w3.drew g N F3 from HR.out)
  have OO2 := Lib.hid OO.out.drew
  clear HR OO
  have HR := HR2
  have OO := OO2
  clear HR2 OO2
  generalize w3.drew = w3d at *
  go_upto_region 4 with (go_at_call 48; rw [E0.out]; rw [E1.out]; rw [E2.out]; refine (out_F z ((nt (F3 x).hi &&& nt (F3 y).hi)) _ hz HR.out HB3.out (by first | exact nt_lt _ | exact sub64_lt (HB3.out _).1 | exact sub64_lt (HB3.out _).2 | exact (HB3.out _).1 | exact or_lt (HB3.out _).1 (HB3.out _).1 | exact or_lt (nt_lt _) (nt_lt _) | exact or_lt (nt_lt _) (HB3.out _).1 | exact Nat.lt_of_le_of_lt Nat.and_le_left (nt_lt _) | exact Nat.lt_of_le_of_lt Nat.and_le_left (HB3.out _).1)).mono ?_; rintro e w4 ⟨rfl, hr, ho⟩; replace HR := Lib.hid hr; replace OO := Lib.hid (OO.out.trans ho); clear hr ho)
  clear r0 r1 E0 E1 E2
  have HB4 := Lib.hid (HB3.out.out z ((nt (F3 x).hi &&& nt (F3 y).hi)))
  obtain ⟨F4, hF4⟩ : ∃ Q, outF F3 z ((nt (F3 x).hi &&& nt (F3 y).hi)) = Q := ⟨_, rfl⟩
  rw [hF4] at HB4 HR
  have r0 : w4.cell? ⟨g, z * 4, none⟩ = some (.int .u64 ((F4 z).lo : Nat)) := HR.out.cell hz 0 (by decide)
  have r1 : w4.cell? ⟨g, y * 4 + 1, none⟩ = some (.int .u64 ((F4 y).hi : Nat)) := HR.out.cell hy 1 (by decide)
  have E0 := Lib.hid (have B4 := HB4.out; andNot_u64 (F4 z).lo (F4 y).hi (B4 z).1 (B4 y).2)
  go_still_tail 10, (by kernel_rfl)
  change wpList _ _ _ _ _ w4.drew
  have HR2 := Lib.hid (show BRow w4.drew g N F4 from HR.out)
  have OO2 := Lib.hid OO.out.drew
  clear HR OO
  have HR := HR2
  have OO := OO2
  clear HR2 OO2
  generalize w4.drew = w4d at *
  go_upto_region 5 with (go_at_call 47; rw [E0.out]; refine (into_F x ((sub64 (F4 z).lo (F4 y).hi)) _ hx HR.out HB4.out (by first | exact nt_lt _ | exact sub64_lt (HB4.out _).1 | exact sub64_lt (HB4.out _).2 | exact (HB4.out _).1 | exact or_lt (HB4.out _).1 (HB4.out _).1 | exact or_lt (nt_lt _) (nt_lt _) | exact or_lt (nt_lt _) (HB4.out _).1 | exact Nat.lt_of_le_of_lt Nat.and_le_left (nt_lt _) | exact Nat.lt_of_le_of_lt Nat.and_le_left (HB4.out _).1)).mono ?_; rintro e w5 ⟨rfl, hr, ho⟩; replace HR := Lib.hid hr; replace OO := Lib.hid (OO.out.trans ho); clear hr ho)
  clear r0 r1 E0
  have HB5 := Lib.hid (HB4.out.into x ((sub64 (F4 z).lo (F4 y).hi)) (by first | exact nt_lt _ | exact sub64_lt (HB4.out _).1 | exact sub64_lt (HB4.out _).2 | exact (HB4.out _).1 | exact or_lt (HB4.out _).1 (HB4.out _).1 | exact or_lt (nt_lt _) (nt_lt _) | exact or_lt (nt_lt _) (HB4.out _).1 | exact Nat.lt_of_le_of_lt Nat.and_le_left (nt_lt _) | exact Nat.lt_of_le_of_lt Nat.and_le_left (HB4.out _).1))
  obtain ⟨F5, hF5⟩ : ∃ Q, intoF F4 x ((sub64 (F4 z).lo (F4 y).hi)) = Q := ⟨_, rfl⟩
  rw [hF5] at HB5 HR
  have r0 : w5.cell? ⟨g, z * 4, none⟩ = some (.int .u64 ((F5 z).lo : Nat)) := HR.out.cell hz 0 (by decide)
  have r1 : w5.cell? ⟨g, x * 4 + 1, none⟩ = some (.int .u64 ((F5 x).hi : Nat)) := HR.out.cell hx 1 (by decide)
  have E0 := Lib.hid (have B5 := HB5.out; andNot_u64 (F5 z).lo (F5 x).hi (B5 z).1 (B5 x).2)
  go_still_tail 10, (by kernel_rfl)
  change wpList _ _ _ _ _ w5.drew
  have HR2 := Lib.hid (show BRow w5.drew g N F5 from HR.out)
  have OO2 := Lib.hid OO.out.drew
  clear HR OO
  have HR := HR2
  have OO := OO2
  clear HR2 OO2
  generalize w5.drew = w5d at *
  go_upto_region 6 with (go_at_call 47; rw [E0.out]; refine (into_F y ((sub64 (F5 z).lo (F5 x).hi)) _ hy HR.out HB5.out (by first | exact nt_lt _ | exact sub64_lt (HB5.out _).1 | exact sub64_lt (HB5.out _).2 | exact (HB5.out _).1 | exact or_lt (HB5.out _).1 (HB5.out _).1 | exact or_lt (nt_lt _) (nt_lt _) | exact or_lt (nt_lt _) (HB5.out _).1 | exact Nat.lt_of_le_of_lt Nat.and_le_left (nt_lt _) | exact Nat.lt_of_le_of_lt Nat.and_le_left (HB5.out _).1)).mono ?_; rintro e w6 ⟨rfl, hr, ho⟩; replace HR := Lib.hid hr; replace OO := Lib.hid (OO.out.trans ho); clear hr ho)
  clear r0 r1 E0
  have HB6 := Lib.hid (HB5.out.into y ((sub64 (F5 z).lo (F5 x).hi)) (by first | exact nt_lt _ | exact sub64_lt (HB5.out _).1 | exact sub64_lt (HB5.out _).2 | exact (HB5.out _).1 | exact or_lt (HB5.out _).1 (HB5.out _).1 | exact or_lt (nt_lt _) (nt_lt _) | exact or_lt (nt_lt _) (HB5.out _).1 | exact Nat.lt_of_le_of_lt Nat.and_le_left (nt_lt _) | exact Nat.lt_of_le_of_lt Nat.and_le_left (HB5.out _).1))
  obtain ⟨F6, hF6⟩ : ∃ Q, intoF F5 y ((sub64 (F5 z).lo (F5 x).hi)) = Q := ⟨_, rfl⟩
  rw [hF6] at HB6 HR
  have r0 : w6.cell? ⟨g, x * 4 + 3, none⟩ = some (.int .i64 (F6 x).mx) := HR.out.cell hx 3 (by decide)
  have r1 : w6.cell? ⟨g, y * 4 + 3, none⟩ = some (.int .i64 (F6 y).mx) := HR.out.cell hy 3 (by decide)
  have hm1 := HM.out x
  have hm2 := HM.out y
  have M1 : (F6 x).mx = (F x).mx := by rw [← hF6, into_mx, ← hF5, into_mx, ← hF4, out_mx, ← hF3, out_mx, ← hF2, out_mx, ← hF1, into_mx]
  have M2 : (F6 y).mx = (F y).mx := by rw [← hF6, into_mx, ← hF5, into_mx, ← hF4, out_mx, ← hF3, out_mx, ← hF2, out_mx, ← hF1, into_mx]
  have E0 := Lib.hid (show wrap64 ((F6 x).mx + (F6 y).mx) = (F6 x).mx + (F6 y).mx from by unfold wrap64; rw [M1, M2]; omega)
  clear hm1 hm2 M1 M2
  go_still_tail 10, (by kernel_rfl)
  change wpList _ _ _ _ _ w6.drew
  have HR2 := Lib.hid (show BRow w6.drew g N F6 from HR.out)
  have OO2 := Lib.hid OO.out.drew
  clear HR OO
  have HR := HR2
  have OO := OO2
  clear HR2 OO2
  generalize w6.drew = w6d at *
  go_upto_region 7 with (go_at_call 50; rw [E0.out]; refine (atMost_F z (((F6 x).mx + (F6 y).mx)) _ hz HR.out).mono ?_; rintro e w7 ⟨rfl, hr, ho⟩; replace HR := Lib.hid hr; replace OO := Lib.hid (OO.out.trans ho); clear hr ho)
  clear r0 r1 E0
  have HB7 := Lib.hid (HB6.out.most z (((F6 x).mx + (F6 y).mx)))
  obtain ⟨F7, hF7⟩ : ∃ Q, mostF F6 z (((F6 x).mx + (F6 y).mx)) = Q := ⟨_, rfl⟩
  rw [hF7] at HB7 HR
  have r0 : w7.cell? ⟨g, x * 4 + 2, none⟩ = some (.int .i64 (F7 x).mn) := HR.out.cell hx 2 (by decide)
  have r1 : w7.cell? ⟨g, y * 4 + 2, none⟩ = some (.int .i64 (F7 y).mn) := HR.out.cell hy 2 (by decide)
  go_still_tail 10, (by kernel_rfl)
  change wpList _ _ _ _ _ w7.drew
  have HR2 := Lib.hid (show BRow w7.drew g N F7 from HR.out)
  have OO2 := Lib.hid OO.out.drew
  clear HR OO
  have HR := HR2
  have OO := OO2
  clear HR2 OO2
  generalize w7.drew = w7d at *
  go_wp2_with (go_at_call 49; rw [show (if (F7 x).mn < (F7 y).mn then (F7 y).mn else (F7 x).mn) = max (F7 x).mn (F7 y).mn by split <;> omega]; refine (atLeast_F z ((max (F7 x).mn (F7 y).mn)) _ hz HR.out).mono ?_; rintro e w8 ⟨rfl, hr, ho⟩; replace HR := Lib.hid hr; replace OO := Lib.hid (OO.out.trans ho); clear hr ho)
  clear r0 r1
  have HB8 := Lib.hid (HB7.out.least z ((max (F7 x).mn (F7 y).mn)))
  obtain ⟨F8, hF8⟩ : ∃ Q, leastF F7 z ((max (F7 x).mn (F7 y).mn)) = Q := ⟨_, rfl⟩
  rw [hF8] at HB8 HR
  refine bodyPost_end (v := .tuple #[]) (by simp [results, Tryd.results93, go_sem]) rfl ⟨rfl, ?_, OO.out⟩
  have e : unionF F x y z = F8 := by unfold unionF; simp only [hF1, hF2, hF3, hF4, hF5, hF6, hF7, hF8]
  rw [e]
  exact HR.out
def meetF (F : Nat → BdV) (x y z : Nat) : Nat → BdV :=
  let F1 := intoF F z (((F x).lo &&& (F y).lo))
  let F2 := intoF F1 x ((F1 z).lo)
  let F3 := intoF F2 y ((F2 z).lo)
  let F4 := outF F3 z ((nt (F3 x).hi ||| nt (F3 y).hi))
  let F5 := outF F4 x ((sub64 (F4 y).lo (F4 z).hi))
  let F6 := outF F5 y ((sub64 (F5 x).lo (F5 z).hi))
  mostF F6 z ((min (F6 x).mx (F6 y).mx))
set_option maxRecDepth 100000 in
set_option maxHeartbeats 8000000 in
theorem meet_F {g N : Nat} {F : Nat → BdV} (x y z : Nat) (w : World) (hx : x < N) (hy : y < N) (hz : z < N) (h : BRow w g N F) (hB : Bits F) :
    Calls Tryd.prog 94 #[.pointer (some ⟨g, x * 4, none⟩), .pointer (some ⟨g, y * 4, none⟩), .pointer (some ⟨g, z * 4, none⟩)] w fun e w' => e = .returned (.tuple #[]) ∧ BRow w' g N (meetF F x y z) ∧ Only g w w' := by
  have HB0 := Lib.hid hB
  have HR := Lib.hid h
  have OO := Lib.hid (Only.refl g w)
  clear h hB
  go_enter Tryd.func94, Tryd.ntmps94
  go_wp2_with fail
  have r0 : w.cell? ⟨g, x * 4, none⟩ = some (.int .u64 ((F x).lo : Nat)) := HR.out.cell hx 0 (by decide)
  have r1 : w.cell? ⟨g, y * 4, none⟩ = some (.int .u64 ((F y).lo : Nat)) := HR.out.cell hy 0 (by decide)
  have E0 := Lib.hid (have B0 := HB0.out; bits_and_u64_nat (F x).lo (F y).lo (B0 x).1 (B0 y).1)
  go_still_tail 10, (by kernel_rfl)
  change wpList _ _ _ _ _ w.drew
  have HR2 := Lib.hid (show BRow w.drew g N F from HR.out)
  have OO2 := Lib.hid OO.out.drew
  clear HR OO
  have HR := HR2
  have OO := OO2
  clear HR2 OO2
  generalize w.drew = wd at *
  go_upto_region 1 with (go_at_call 47; rw [E0.out]; refine (into_F z (((F x).lo &&& (F y).lo)) _ hz HR.out HB0.out (by first | exact nt_lt _ | exact sub64_lt (HB0.out _).1 | exact sub64_lt (HB0.out _).2 | exact (HB0.out _).1 | exact or_lt (HB0.out _).1 (HB0.out _).1 | exact or_lt (nt_lt _) (nt_lt _) | exact or_lt (nt_lt _) (HB0.out _).1 | exact Nat.lt_of_le_of_lt Nat.and_le_left (nt_lt _) | exact Nat.lt_of_le_of_lt Nat.and_le_left (HB0.out _).1)).mono ?_; rintro e w1 ⟨rfl, hr, ho⟩; replace HR := Lib.hid hr; replace OO := Lib.hid (OO.out.trans ho); clear hr ho)
  clear r0 r1 E0
  have HB1 := Lib.hid (HB0.out.into z (((F x).lo &&& (F y).lo)) (by first | exact nt_lt _ | exact sub64_lt (HB0.out _).1 | exact sub64_lt (HB0.out _).2 | exact (HB0.out _).1 | exact or_lt (HB0.out _).1 (HB0.out _).1 | exact or_lt (nt_lt _) (nt_lt _) | exact or_lt (nt_lt _) (HB0.out _).1 | exact Nat.lt_of_le_of_lt Nat.and_le_left (nt_lt _) | exact Nat.lt_of_le_of_lt Nat.and_le_left (HB0.out _).1))
  obtain ⟨F1, hF1⟩ : ∃ Q, intoF F z (((F x).lo &&& (F y).lo)) = Q := ⟨_, rfl⟩
  rw [hF1] at HB1 HR
  have r0 : w1.cell? ⟨g, z * 4, none⟩ = some (.int .u64 ((F1 z).lo : Nat)) := HR.out.cell hz 0 (by decide)
  go_upto_region 2 with (go_at_call 47; refine (into_F x ((F1 z).lo) _ hx HR.out HB1.out (by first | exact nt_lt _ | exact sub64_lt (HB1.out _).1 | exact sub64_lt (HB1.out _).2 | exact (HB1.out _).1 | exact or_lt (HB1.out _).1 (HB1.out _).1 | exact or_lt (nt_lt _) (nt_lt _) | exact or_lt (nt_lt _) (HB1.out _).1 | exact Nat.lt_of_le_of_lt Nat.and_le_left (nt_lt _) | exact Nat.lt_of_le_of_lt Nat.and_le_left (HB1.out _).1)).mono ?_; rintro e w2 ⟨rfl, hr, ho⟩; replace HR := Lib.hid hr; replace OO := Lib.hid (OO.out.trans ho); clear hr ho)
  clear r0
  have HB2 := Lib.hid (HB1.out.into x ((F1 z).lo) (by first | exact nt_lt _ | exact sub64_lt (HB1.out _).1 | exact sub64_lt (HB1.out _).2 | exact (HB1.out _).1 | exact or_lt (HB1.out _).1 (HB1.out _).1 | exact or_lt (nt_lt _) (nt_lt _) | exact or_lt (nt_lt _) (HB1.out _).1 | exact Nat.lt_of_le_of_lt Nat.and_le_left (nt_lt _) | exact Nat.lt_of_le_of_lt Nat.and_le_left (HB1.out _).1))
  obtain ⟨F2, hF2⟩ : ∃ Q, intoF F1 x ((F1 z).lo) = Q := ⟨_, rfl⟩
  rw [hF2] at HB2 HR
  have r0 : w2.cell? ⟨g, z * 4, none⟩ = some (.int .u64 ((F2 z).lo : Nat)) := HR.out.cell hz 0 (by decide)
  go_upto_region 3 with (go_at_call 47; refine (into_F y ((F2 z).lo) _ hy HR.out HB2.out (by first | exact nt_lt _ | exact sub64_lt (HB2.out _).1 | exact sub64_lt (HB2.out _).2 | exact (HB2.out _).1 | exact or_lt (HB2.out _).1 (HB2.out _).1 | exact or_lt (nt_lt _) (nt_lt _) | exact or_lt (nt_lt _) (HB2.out _).1 | exact Nat.lt_of_le_of_lt Nat.and_le_left (nt_lt _) | exact Nat.lt_of_le_of_lt Nat.and_le_left (HB2.out _).1)).mono ?_; rintro e w3 ⟨rfl, hr, ho⟩; replace HR := Lib.hid hr; replace OO := Lib.hid (OO.out.trans ho); clear hr ho)
  clear r0
  have HB3 := Lib.hid (HB2.out.into y ((F2 z).lo) (by first | exact nt_lt _ | exact sub64_lt (HB2.out _).1 | exact sub64_lt (HB2.out _).2 | exact (HB2.out _).1 | exact or_lt (HB2.out _).1 (HB2.out _).1 | exact or_lt (nt_lt _) (nt_lt _) | exact or_lt (nt_lt _) (HB2.out _).1 | exact Nat.lt_of_le_of_lt Nat.and_le_left (nt_lt _) | exact Nat.lt_of_le_of_lt Nat.and_le_left (HB2.out _).1))
  obtain ⟨F3, hF3⟩ : ∃ Q, intoF F2 y ((F2 z).lo) = Q := ⟨_, rfl⟩
  rw [hF3] at HB3 HR
  have r0 : w3.cell? ⟨g, x * 4 + 1, none⟩ = some (.int .u64 ((F3 x).hi : Nat)) := HR.out.cell hx 1 (by decide)
  have r1 : w3.cell? ⟨g, y * 4 + 1, none⟩ = some (.int .u64 ((F3 y).hi : Nat)) := HR.out.cell hy 1 (by decide)
  have E0 := Lib.hid (have B3 := HB3.out; (show bits .xor .u64 IntKind.u64.max ((F3 x).hi : Int) = ((nt (F3 x).hi : Nat) : Int) from xor_u64 (F3 x).hi (B3 x).2))
  have E1 := Lib.hid (have B3 := HB3.out; (show bits .xor .u64 IntKind.u64.max ((F3 y).hi : Int) = ((nt (F3 y).hi : Nat) : Int) from xor_u64 (F3 y).hi (B3 y).2))
  have E2 := Lib.hid (have B3 := HB3.out; bits_or_u64_nat (nt (F3 x).hi) (nt (F3 y).hi) (nt_lt _) (nt_lt _))
  go_still_tail 12, (by kernel_rfl)
  change wpList _ _ _ _ _ w3.drew
  have HR2 := Lib.hid (show BRow w3.drew g N F3 from HR.out)
  have OO2 := Lib.hid OO.out.drew
  clear HR OO
  have HR := HR2
  have OO := OO2
  clear HR2 OO2
  generalize w3.drew = w3d at *
  go_upto_region 4 with (go_at_call 48; rw [E0.out]; rw [E1.out]; rw [E2.out]; refine (out_F z ((nt (F3 x).hi ||| nt (F3 y).hi)) _ hz HR.out HB3.out (by first | exact nt_lt _ | exact sub64_lt (HB3.out _).1 | exact sub64_lt (HB3.out _).2 | exact (HB3.out _).1 | exact or_lt (HB3.out _).1 (HB3.out _).1 | exact or_lt (nt_lt _) (nt_lt _) | exact or_lt (nt_lt _) (HB3.out _).1 | exact Nat.lt_of_le_of_lt Nat.and_le_left (nt_lt _) | exact Nat.lt_of_le_of_lt Nat.and_le_left (HB3.out _).1)).mono ?_; rintro e w4 ⟨rfl, hr, ho⟩; replace HR := Lib.hid hr; replace OO := Lib.hid (OO.out.trans ho); clear hr ho)
  clear r0 r1 E0 E1 E2
  have HB4 := Lib.hid (HB3.out.out z ((nt (F3 x).hi ||| nt (F3 y).hi)))
  obtain ⟨F4, hF4⟩ : ∃ Q, outF F3 z ((nt (F3 x).hi ||| nt (F3 y).hi)) = Q := ⟨_, rfl⟩
  rw [hF4] at HB4 HR
  have r0 : w4.cell? ⟨g, y * 4, none⟩ = some (.int .u64 ((F4 y).lo : Nat)) := HR.out.cell hy 0 (by decide)
  have r1 : w4.cell? ⟨g, z * 4 + 1, none⟩ = some (.int .u64 ((F4 z).hi : Nat)) := HR.out.cell hz 1 (by decide)
  have E0 := Lib.hid (have B4 := HB4.out; andNot_u64 (F4 y).lo (F4 z).hi (B4 y).1 (B4 z).2)
  go_still_tail 10, (by kernel_rfl)
  change wpList _ _ _ _ _ w4.drew
  have HR2 := Lib.hid (show BRow w4.drew g N F4 from HR.out)
  have OO2 := Lib.hid OO.out.drew
  clear HR OO
  have HR := HR2
  have OO := OO2
  clear HR2 OO2
  generalize w4.drew = w4d at *
  go_upto_region 5 with (go_at_call 48; rw [E0.out]; refine (out_F x ((sub64 (F4 y).lo (F4 z).hi)) _ hx HR.out HB4.out (by first | exact nt_lt _ | exact sub64_lt (HB4.out _).1 | exact sub64_lt (HB4.out _).2 | exact (HB4.out _).1 | exact or_lt (HB4.out _).1 (HB4.out _).1 | exact or_lt (nt_lt _) (nt_lt _) | exact or_lt (nt_lt _) (HB4.out _).1 | exact Nat.lt_of_le_of_lt Nat.and_le_left (nt_lt _) | exact Nat.lt_of_le_of_lt Nat.and_le_left (HB4.out _).1)).mono ?_; rintro e w5 ⟨rfl, hr, ho⟩; replace HR := Lib.hid hr; replace OO := Lib.hid (OO.out.trans ho); clear hr ho)
  clear r0 r1 E0
  have HB5 := Lib.hid (HB4.out.out x ((sub64 (F4 y).lo (F4 z).hi)))
  obtain ⟨F5, hF5⟩ : ∃ Q, outF F4 x ((sub64 (F4 y).lo (F4 z).hi)) = Q := ⟨_, rfl⟩
  rw [hF5] at HB5 HR
  have r0 : w5.cell? ⟨g, x * 4, none⟩ = some (.int .u64 ((F5 x).lo : Nat)) := HR.out.cell hx 0 (by decide)
  have r1 : w5.cell? ⟨g, z * 4 + 1, none⟩ = some (.int .u64 ((F5 z).hi : Nat)) := HR.out.cell hz 1 (by decide)
  have E0 := Lib.hid (have B5 := HB5.out; andNot_u64 (F5 x).lo (F5 z).hi (B5 x).1 (B5 z).2)
  go_still_tail 10, (by kernel_rfl)
  change wpList _ _ _ _ _ w5.drew
  have HR2 := Lib.hid (show BRow w5.drew g N F5 from HR.out)
  have OO2 := Lib.hid OO.out.drew
  clear HR OO
  have HR := HR2
  have OO := OO2
  clear HR2 OO2
  generalize w5.drew = w5d at *
  go_upto_region 6 with (go_at_call 48; rw [E0.out]; refine (out_F y ((sub64 (F5 x).lo (F5 z).hi)) _ hy HR.out HB5.out (by first | exact nt_lt _ | exact sub64_lt (HB5.out _).1 | exact sub64_lt (HB5.out _).2 | exact (HB5.out _).1 | exact or_lt (HB5.out _).1 (HB5.out _).1 | exact or_lt (nt_lt _) (nt_lt _) | exact or_lt (nt_lt _) (HB5.out _).1 | exact Nat.lt_of_le_of_lt Nat.and_le_left (nt_lt _) | exact Nat.lt_of_le_of_lt Nat.and_le_left (HB5.out _).1)).mono ?_; rintro e w6 ⟨rfl, hr, ho⟩; replace HR := Lib.hid hr; replace OO := Lib.hid (OO.out.trans ho); clear hr ho)
  clear r0 r1 E0
  have HB6 := Lib.hid (HB5.out.out y ((sub64 (F5 x).lo (F5 z).hi)))
  obtain ⟨F6, hF6⟩ : ∃ Q, outF F5 y ((sub64 (F5 x).lo (F5 z).hi)) = Q := ⟨_, rfl⟩
  rw [hF6] at HB6 HR
  have r0 : w6.cell? ⟨g, x * 4 + 3, none⟩ = some (.int .i64 (F6 x).mx) := HR.out.cell hx 3 (by decide)
  have r1 : w6.cell? ⟨g, y * 4 + 3, none⟩ = some (.int .i64 (F6 y).mx) := HR.out.cell hy 3 (by decide)
  go_still_tail 10, (by kernel_rfl)
  change wpList _ _ _ _ _ w6.drew
  have HR2 := Lib.hid (show BRow w6.drew g N F6 from HR.out)
  have OO2 := Lib.hid OO.out.drew
  clear HR OO
  have HR := HR2
  have OO := OO2
  clear HR2 OO2
  generalize w6.drew = w6d at *
  go_wp2_with (go_at_call 50; rw [show (if (F6 y).mx < (F6 x).mx then (F6 y).mx else (F6 x).mx) = min (F6 x).mx (F6 y).mx by split <;> omega]; refine (atMost_F z ((min (F6 x).mx (F6 y).mx)) _ hz HR.out).mono ?_; rintro e w7 ⟨rfl, hr, ho⟩; replace HR := Lib.hid hr; replace OO := Lib.hid (OO.out.trans ho); clear hr ho)
  clear r0 r1
  have HB7 := Lib.hid (HB6.out.most z ((min (F6 x).mx (F6 y).mx)))
  obtain ⟨F7, hF7⟩ : ∃ Q, mostF F6 z ((min (F6 x).mx (F6 y).mx)) = Q := ⟨_, rfl⟩
  rw [hF7] at HB7 HR
  refine bodyPost_end (v := .tuple #[]) (by simp [results, Tryd.results94, go_sem]) rfl ⟨rfl, ?_, OO.out⟩
  have e : meetF F x y z = F7 := by unfold meetF; simp only [hF1, hF2, hF3, hF4, hF5, hF6, hF7]
  rw [e]
  exact HR.out
def minusF (F : Nat → BdV) (x y z : Nat) : Nat → BdV :=
  let F1 := intoF F z ((sub64 (F x).lo (F y).hi))
  let F2 := intoF F1 x ((F1 z).lo)
  let F3 := outF F2 y ((F2 z).lo)
  let F4 := outF F3 z ((nt (F3 x).hi ||| (F3 y).lo))
  let F5 := intoF F4 y ((sub64 (F4 x).lo (F4 z).hi))
  mostF F5 z ((F5 x).mx)
set_option maxRecDepth 100000 in
set_option maxHeartbeats 8000000 in
theorem minus_F {g N : Nat} {F : Nat → BdV} (x y z : Nat) (w : World) (hx : x < N) (hy : y < N) (hz : z < N) (h : BRow w g N F) (hB : Bits F) :
    Calls Tryd.prog 95 #[.pointer (some ⟨g, x * 4, none⟩), .pointer (some ⟨g, y * 4, none⟩), .pointer (some ⟨g, z * 4, none⟩)] w fun e w' => e = .returned (.tuple #[]) ∧ BRow w' g N (minusF F x y z) ∧ Only g w w' := by
  have HB0 := Lib.hid hB
  have HR := Lib.hid h
  have OO := Lib.hid (Only.refl g w)
  clear h hB
  go_enter Tryd.func95, Tryd.ntmps95
  go_wp2_with fail
  have r0 : w.cell? ⟨g, x * 4, none⟩ = some (.int .u64 ((F x).lo : Nat)) := HR.out.cell hx 0 (by decide)
  have r1 : w.cell? ⟨g, y * 4 + 1, none⟩ = some (.int .u64 ((F y).hi : Nat)) := HR.out.cell hy 1 (by decide)
  have E0 := Lib.hid (have B0 := HB0.out; andNot_u64 (F x).lo (F y).hi (B0 x).1 (B0 y).2)
  go_still_tail 10, (by kernel_rfl)
  change wpList _ _ _ _ _ w.drew
  have HR2 := Lib.hid (show BRow w.drew g N F from HR.out)
  have OO2 := Lib.hid OO.out.drew
  clear HR OO
  have HR := HR2
  have OO := OO2
  clear HR2 OO2
  generalize w.drew = wd at *
  go_upto_region 1 with (go_at_call 47; rw [E0.out]; refine (into_F z ((sub64 (F x).lo (F y).hi)) _ hz HR.out HB0.out (by first | exact nt_lt _ | exact sub64_lt (HB0.out _).1 | exact sub64_lt (HB0.out _).2 | exact (HB0.out _).1 | exact or_lt (HB0.out _).1 (HB0.out _).1 | exact or_lt (nt_lt _) (nt_lt _) | exact or_lt (nt_lt _) (HB0.out _).1 | exact Nat.lt_of_le_of_lt Nat.and_le_left (nt_lt _) | exact Nat.lt_of_le_of_lt Nat.and_le_left (HB0.out _).1)).mono ?_; rintro e w1 ⟨rfl, hr, ho⟩; replace HR := Lib.hid hr; replace OO := Lib.hid (OO.out.trans ho); clear hr ho)
  clear r0 r1 E0
  have HB1 := Lib.hid (HB0.out.into z ((sub64 (F x).lo (F y).hi)) (by first | exact nt_lt _ | exact sub64_lt (HB0.out _).1 | exact sub64_lt (HB0.out _).2 | exact (HB0.out _).1 | exact or_lt (HB0.out _).1 (HB0.out _).1 | exact or_lt (nt_lt _) (nt_lt _) | exact or_lt (nt_lt _) (HB0.out _).1 | exact Nat.lt_of_le_of_lt Nat.and_le_left (nt_lt _) | exact Nat.lt_of_le_of_lt Nat.and_le_left (HB0.out _).1))
  obtain ⟨F1, hF1⟩ : ∃ Q, intoF F z ((sub64 (F x).lo (F y).hi)) = Q := ⟨_, rfl⟩
  rw [hF1] at HB1 HR
  have r0 : w1.cell? ⟨g, z * 4, none⟩ = some (.int .u64 ((F1 z).lo : Nat)) := HR.out.cell hz 0 (by decide)
  go_upto_region 2 with (go_at_call 47; refine (into_F x ((F1 z).lo) _ hx HR.out HB1.out (by first | exact nt_lt _ | exact sub64_lt (HB1.out _).1 | exact sub64_lt (HB1.out _).2 | exact (HB1.out _).1 | exact or_lt (HB1.out _).1 (HB1.out _).1 | exact or_lt (nt_lt _) (nt_lt _) | exact or_lt (nt_lt _) (HB1.out _).1 | exact Nat.lt_of_le_of_lt Nat.and_le_left (nt_lt _) | exact Nat.lt_of_le_of_lt Nat.and_le_left (HB1.out _).1)).mono ?_; rintro e w2 ⟨rfl, hr, ho⟩; replace HR := Lib.hid hr; replace OO := Lib.hid (OO.out.trans ho); clear hr ho)
  clear r0
  have HB2 := Lib.hid (HB1.out.into x ((F1 z).lo) (by first | exact nt_lt _ | exact sub64_lt (HB1.out _).1 | exact sub64_lt (HB1.out _).2 | exact (HB1.out _).1 | exact or_lt (HB1.out _).1 (HB1.out _).1 | exact or_lt (nt_lt _) (nt_lt _) | exact or_lt (nt_lt _) (HB1.out _).1 | exact Nat.lt_of_le_of_lt Nat.and_le_left (nt_lt _) | exact Nat.lt_of_le_of_lt Nat.and_le_left (HB1.out _).1))
  obtain ⟨F2, hF2⟩ : ∃ Q, intoF F1 x ((F1 z).lo) = Q := ⟨_, rfl⟩
  rw [hF2] at HB2 HR
  have r0 : w2.cell? ⟨g, z * 4, none⟩ = some (.int .u64 ((F2 z).lo : Nat)) := HR.out.cell hz 0 (by decide)
  go_upto_region 3 with (go_at_call 48; refine (out_F y ((F2 z).lo) _ hy HR.out HB2.out (by first | exact nt_lt _ | exact sub64_lt (HB2.out _).1 | exact sub64_lt (HB2.out _).2 | exact (HB2.out _).1 | exact or_lt (HB2.out _).1 (HB2.out _).1 | exact or_lt (nt_lt _) (nt_lt _) | exact or_lt (nt_lt _) (HB2.out _).1 | exact Nat.lt_of_le_of_lt Nat.and_le_left (nt_lt _) | exact Nat.lt_of_le_of_lt Nat.and_le_left (HB2.out _).1)).mono ?_; rintro e w3 ⟨rfl, hr, ho⟩; replace HR := Lib.hid hr; replace OO := Lib.hid (OO.out.trans ho); clear hr ho)
  clear r0
  have HB3 := Lib.hid (HB2.out.out y ((F2 z).lo))
  obtain ⟨F3, hF3⟩ : ∃ Q, outF F2 y ((F2 z).lo) = Q := ⟨_, rfl⟩
  rw [hF3] at HB3 HR
  have r0 : w3.cell? ⟨g, x * 4 + 1, none⟩ = some (.int .u64 ((F3 x).hi : Nat)) := HR.out.cell hx 1 (by decide)
  have r1 : w3.cell? ⟨g, y * 4, none⟩ = some (.int .u64 ((F3 y).lo : Nat)) := HR.out.cell hy 0 (by decide)
  have E0 := Lib.hid (have B3 := HB3.out; (show bits .xor .u64 IntKind.u64.max ((F3 x).hi : Int) = ((nt (F3 x).hi : Nat) : Int) from xor_u64 (F3 x).hi (B3 x).2))
  have E1 := Lib.hid (have B3 := HB3.out; bits_or_u64_nat (nt (F3 x).hi) (F3 y).lo (nt_lt _) (B3 y).1)
  go_still_tail 11, (by kernel_rfl)
  change wpList _ _ _ _ _ w3.drew
  have HR2 := Lib.hid (show BRow w3.drew g N F3 from HR.out)
  have OO2 := Lib.hid OO.out.drew
  clear HR OO
  have HR := HR2
  have OO := OO2
  clear HR2 OO2
  generalize w3.drew = w3d at *
  go_upto_region 4 with (go_at_call 48; rw [E0.out]; rw [E1.out]; refine (out_F z ((nt (F3 x).hi ||| (F3 y).lo)) _ hz HR.out HB3.out (by first | exact nt_lt _ | exact sub64_lt (HB3.out _).1 | exact sub64_lt (HB3.out _).2 | exact (HB3.out _).1 | exact or_lt (HB3.out _).1 (HB3.out _).1 | exact or_lt (nt_lt _) (nt_lt _) | exact or_lt (nt_lt _) (HB3.out _).1 | exact Nat.lt_of_le_of_lt Nat.and_le_left (nt_lt _) | exact Nat.lt_of_le_of_lt Nat.and_le_left (HB3.out _).1)).mono ?_; rintro e w4 ⟨rfl, hr, ho⟩; replace HR := Lib.hid hr; replace OO := Lib.hid (OO.out.trans ho); clear hr ho)
  clear r0 r1 E0 E1
  have HB4 := Lib.hid (HB3.out.out z ((nt (F3 x).hi ||| (F3 y).lo)))
  obtain ⟨F4, hF4⟩ : ∃ Q, outF F3 z ((nt (F3 x).hi ||| (F3 y).lo)) = Q := ⟨_, rfl⟩
  rw [hF4] at HB4 HR
  have r0 : w4.cell? ⟨g, x * 4, none⟩ = some (.int .u64 ((F4 x).lo : Nat)) := HR.out.cell hx 0 (by decide)
  have r1 : w4.cell? ⟨g, z * 4 + 1, none⟩ = some (.int .u64 ((F4 z).hi : Nat)) := HR.out.cell hz 1 (by decide)
  have E0 := Lib.hid (have B4 := HB4.out; andNot_u64 (F4 x).lo (F4 z).hi (B4 x).1 (B4 z).2)
  go_still_tail 10, (by kernel_rfl)
  change wpList _ _ _ _ _ w4.drew
  have HR2 := Lib.hid (show BRow w4.drew g N F4 from HR.out)
  have OO2 := Lib.hid OO.out.drew
  clear HR OO
  have HR := HR2
  have OO := OO2
  clear HR2 OO2
  generalize w4.drew = w4d at *
  go_upto_region 5 with (go_at_call 47; rw [E0.out]; refine (into_F y ((sub64 (F4 x).lo (F4 z).hi)) _ hy HR.out HB4.out (by first | exact nt_lt _ | exact sub64_lt (HB4.out _).1 | exact sub64_lt (HB4.out _).2 | exact (HB4.out _).1 | exact or_lt (HB4.out _).1 (HB4.out _).1 | exact or_lt (nt_lt _) (nt_lt _) | exact or_lt (nt_lt _) (HB4.out _).1 | exact Nat.lt_of_le_of_lt Nat.and_le_left (nt_lt _) | exact Nat.lt_of_le_of_lt Nat.and_le_left (HB4.out _).1)).mono ?_; rintro e w5 ⟨rfl, hr, ho⟩; replace HR := Lib.hid hr; replace OO := Lib.hid (OO.out.trans ho); clear hr ho)
  clear r0 r1 E0
  have HB5 := Lib.hid (HB4.out.into y ((sub64 (F4 x).lo (F4 z).hi)) (by first | exact nt_lt _ | exact sub64_lt (HB4.out _).1 | exact sub64_lt (HB4.out _).2 | exact (HB4.out _).1 | exact or_lt (HB4.out _).1 (HB4.out _).1 | exact or_lt (nt_lt _) (nt_lt _) | exact or_lt (nt_lt _) (HB4.out _).1 | exact Nat.lt_of_le_of_lt Nat.and_le_left (nt_lt _) | exact Nat.lt_of_le_of_lt Nat.and_le_left (HB4.out _).1))
  obtain ⟨F5, hF5⟩ : ∃ Q, intoF F4 y ((sub64 (F4 x).lo (F4 z).hi)) = Q := ⟨_, rfl⟩
  rw [hF5] at HB5 HR
  have r0 : w5.cell? ⟨g, x * 4 + 3, none⟩ = some (.int .i64 (F5 x).mx) := HR.out.cell hx 3 (by decide)
  go_wp2_with (go_at_call 50; refine (atMost_F z ((F5 x).mx) _ hz HR.out).mono ?_; rintro e w6 ⟨rfl, hr, ho⟩; replace HR := Lib.hid hr; replace OO := Lib.hid (OO.out.trans ho); clear hr ho)
  clear r0
  have HB6 := Lib.hid (HB5.out.most z ((F5 x).mx))
  obtain ⟨F6, hF6⟩ : ∃ Q, mostF F5 z ((F5 x).mx) = Q := ⟨_, rfl⟩
  rw [hF6] at HB6 HR
  refine bodyPost_end (v := .tuple #[]) (by simp [results, Tryd.results95, go_sem]) rfl ⟨rfl, ?_, OO.out⟩
  have e : minusF F x y z = F6 := by unfold minusF; simp only [hF1, hF2, hF3, hF4, hF5, hF6]
  rw [e]
  exact HR.out
end Go.Proofs.YthakhdbakmlooaaDoor
