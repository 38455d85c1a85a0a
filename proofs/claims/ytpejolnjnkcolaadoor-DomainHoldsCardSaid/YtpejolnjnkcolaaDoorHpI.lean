/-
  Whether a propagator holds: the greater one of two; an element of a list.
-/
import Derived.Test.YtpejolnjnkcolaaDoorHpG
namespace Go.Proofs.YtpejolnjnkcolaaDoor
open Go Go.RowKit Go.Ev

/-- the two boxes -/
def boxW (w : World) (P V : Value) (cs : Array Value) : World := (w.alloc (.cells cs 37)).alloc (.cells #[V] 23)
theorem box_at {w : World} {P V : Value} {cs : Array Value} : (boxW w P V cs).cell? ⟨w.heap.size + 1, 0, none⟩ = some V ∧ ∀ i, (boxW w P V cs).cell? ⟨w.heap.size, i, none⟩ = cs[i]? := by
  constructor
  · have := World.alloc_heap_new (w.alloc (.cells cs 37)) (.cells #[V] 23)
    rw [World.size_alloc] at this
    unfold World.cell? boxW
    simp only [this]
    rfl
  · intro i
    have h1 := World.alloc_heap_new w (.cells cs 37)
    have h2 := (Below.heap_alloc (w.alloc (.cells cs 37)) (.cells #[V] 23) w.heap.size (by simp)).trans h1
    unfold World.cell? boxW
    simp only [h2]
    simp
set_option maxRecDepth 100000 in
set_option maxHeartbeats 4000000 in
theorem hold_max (x : ByteArray) (vs cs us : List Int) (n : Int) (A B D : Option Addr) (c1 c2 c3 : Nat) (w : World) (hx : x.toList = [109, 97, 120]) (hp : Pl w A D vs us) (hm : vs.length = 3) :
    Calls Tryd.prog 42 #[.agg #[.string x, .slice A vs.length c1, .slice B cs.length c2, .int .i64 n], .slice D us.length c3] w fun e w' => e = .returned (.bool (decide (nthI (pick vs us) 2 = max (nthI (pick vs us) 0) (nthI (pick vs us) 1)))) ∧ Below w.heap.size w w' := by
  have k_sum : (x.toList == [115, 117, 109]) = false := by rw [hx]; rfl
  have k_most : (x.toList == [109, 111, 115, 116]) = false := by rw [hx]; rfl
  have k_distinct : (x.toList == [100, 105, 115, 116, 105, 110, 99, 116]) = false := by rw [hx]; rfl
  have k_unlike : (x.toList == [117, 110, 108, 105, 107, 101]) = false := by rw [hx]; rfl
  have k_product : (x.toList == [112, 114, 111, 100, 117, 99, 116]) = false := by rw [hx]; rfl
  have k_max : (x.toList == [109, 97, 120]) = true := by rw [hx]; rfl
  have k_reify : (x.toList == [114, 101, 105, 102, 121]) = false := by rw [hx]; rfl
  have k_element : (x.toList == [101, 108, 101, 109, 101, 110, 116]) = false := by rw [hx]; rfl
  have k_apart : (x.toList == [97, 112, 97, 114, 116]) = false := by rw [hx]; rfl
  clear hx
  obtain ⟨W, hW⟩ : ∃ W, boxW w .nilFunc (.slice D us.length c3) #[.string x, .slice A vs.length c1, .slice B cs.length c2, .int .i64 n] = W := ⟨_, rfl⟩
  have hB0 : Below w.heap.size w W := by rw [← hW]; exact ((Below.refl _ w).alloc (Nat.le_refl _) _).alloc (by simp) _
  have hsz : W.heap.size = w.heap.size + 2 := by rw [← hW]; simp [boxW]
  have b1 := (box_at (w := w) (P := .nilFunc) (V := .slice D us.length c3) (cs := #[.string x, .slice A vs.length c1, .slice B cs.length c2, .int .i64 n])).1
  have b2 := (box_at (w := w) (P := .nilFunc) (V := .slice D us.length c3) (cs := #[.string x, .slice A vs.length c1, .slice B cs.length c2, .int .i64 n])).2 1
  rw [hW] at b1 b2
  have AT := fun (j : Nat) (hj : j < 3) (W' : World) (hb : Below W.heap.size W W') => Calls.mono (at_q j (w.heap.size + 1) 0 w.heap.size 0 A D vs us c1 c3 W' (hp.over (hB0.trans (hb.mono (by omega)))) (by omega) ((hb.cell (p := ⟨w.heap.size + 1, 0, none⟩) (by show w.heap.size + 1 < _; omega)).trans b1) ((hb.cell (p := ⟨w.heap.size, 0 + 1, none⟩) (by show w.heap.size < _; omega)).trans (by simpa using b2))) (R' := fun e w2 => e = .returned (.int .i64 (nthI (pick vs us) j)) ∧ Below W.heap.size W w2) (by rintro e w2 ⟨rfl, m, rfl⟩; exact ⟨rfl, below_drewN hb m⟩)
  have T0 := Lib.hid (fun W' hb => AT 0 (by decide) W' hb)
  have T1 := Lib.hid (fun W' hb => AT 1 (by decide) W' hb)
  have T2 := Lib.hid (fun W' hb => AT 2 (by decide) W' hb)
  have HB := Lib.hid hB0
  have HW := Lib.hid hW
  have HS := Lib.hid hsz
  clear AT b1 b2 hp hB0 hW hsz hm
  generalize nthI (pick vs us) 0 = a0 at *
  generalize nthI (pick vs us) 1 = a1 at *
  generalize nthI (pick vs us) 2 = a2 at *
  go_enter Tryd.func42, Tryd.ntmps42
  go_wp2_with fail
  have hW := HW.out
  unfold boxW at hW
  rw [hW]
  refine (T0.out _ (Below.refl _ _)).mono ?_
  rintro e w1 ⟨rfl, hb1⟩
  clear hW
  go_wp2_with fail
  refine (T1.out _ hb1).mono ?_
  rintro e w2 ⟨rfl, hb2⟩
  go_wp2_with fail
  all_goals
    (refine (T2.out _ hb2).mono ?_
     rintro e w3 ⟨rfl, hb3⟩
     have HE := Lib.hid (HB.out.trans (hb3.mono HB.out.size))
     clear hb1 hb2 hb3 T0 T1 T2
     go_wp2_with fail
     go_ret
     exact ⟨by show Ending.returned (.bool _) = _; congr 2; rw [Bool.eq_iff_iff, beq_iff_eq, decide_eq_true_iff]; omega, HE.out⟩)
set_option maxRecDepth 100000 in
set_option maxHeartbeats 4000000 in
theorem hold_element (x : ByteArray) (vs cs us : List Int) (n : Int) (A B D : Option Addr) (c1 c2 c3 : Nat) (w : World) (hx : x.toList = [101, 108, 101, 109, 101, 110, 116]) (hp : Pl w A D vs us) (hb : Ints w B cs) (hm : vs.length = 2) :
    Calls Tryd.prog 42 #[.agg #[.string x, .slice A vs.length c1, .slice B cs.length c2, .int .i64 n], .slice D us.length c3] w fun e w' => e = .returned (.bool (decide (1 ≤ nthI (pick vs us) 0) && decide (nthI (pick vs us) 0 ≤ cs.length) && decide (nthI cs (nthI (pick vs us) 0 - 1).toNat = nthI (pick vs us) 1))) ∧ Below w.heap.size w w' := by
  have k_sum : (x.toList == [115, 117, 109]) = false := by rw [hx]; rfl
  have k_most : (x.toList == [109, 111, 115, 116]) = false := by rw [hx]; rfl
  have k_distinct : (x.toList == [100, 105, 115, 116, 105, 110, 99, 116]) = false := by rw [hx]; rfl
  have k_unlike : (x.toList == [117, 110, 108, 105, 107, 101]) = false := by rw [hx]; rfl
  have k_product : (x.toList == [112, 114, 111, 100, 117, 99, 116]) = false := by rw [hx]; rfl
  have k_max : (x.toList == [109, 97, 120]) = false := by rw [hx]; rfl
  have k_reify : (x.toList == [114, 101, 105, 102, 121]) = false := by rw [hx]; rfl
  have k_element : (x.toList == [101, 108, 101, 109, 101, 110, 116]) = true := by rw [hx]; rfl
  have k_apart : (x.toList == [97, 112, 97, 114, 116]) = false := by rw [hx]; rfl
  clear hx
  obtain ⟨W, hW⟩ : ∃ W, boxW w .nilFunc (.slice D us.length c3) #[.string x, .slice A vs.length c1, .slice B cs.length c2, .int .i64 n] = W := ⟨_, rfl⟩
  have hB0 : Below w.heap.size w W := by rw [← hW]; exact ((Below.refl _ w).alloc (Nat.le_refl _) _).alloc (by simp) _
  have hsz : W.heap.size = w.heap.size + 2 := by rw [← hW]; simp [boxW]
  have b1 := (box_at (w := w) (P := .nilFunc) (V := .slice D us.length c3) (cs := #[.string x, .slice A vs.length c1, .slice B cs.length c2, .int .i64 n])).1
  have b2 := (box_at (w := w) (P := .nilFunc) (V := .slice D us.length c3) (cs := #[.string x, .slice A vs.length c1, .slice B cs.length c2, .int .i64 n])).2
  rw [hW] at b1 b2
  have AT := fun (j : Nat) (hj : j < 2) (W' : World) (hb : Below W.heap.size W W') => at_q j (w.heap.size + 1) 0 w.heap.size 0 A D vs us c1 c3 W' (hp.over (hB0.trans (hb.mono (by omega)))) (by omega) ((hb.cell (p := ⟨w.heap.size + 1, 0, none⟩) (by show w.heap.size + 1 < _; omega)).trans b1) ((hb.cell (p := ⟨w.heap.size, 0 + 1, none⟩) (by show w.heap.size < _; omega)).trans (by simpa using b2 1))
  have T0 := Lib.hid (fun W' hb => AT 0 (by decide) W' hb)
  have T1 := Lib.hid (fun W' hb => AT 1 (by decide) W' hb)
  have HB := Lib.hid hB0
  have HW := Lib.hid hW
  have HS := Lib.hid hsz
  have HB2 := Lib.hid b2
  have HCS := Lib.hid hb
  clear AT b1 b2 hp hB0 hW hsz hm hb
  generalize nthI (pick vs us) 0 = a0 at *
  generalize nthI (pick vs us) 1 = a1 at *
  obtain ⟨R, hR⟩ : ∃ R, (decide (1 ≤ a0) && decide (a0 ≤ cs.length) && decide (nthI cs (a0 - 1).toNat = a1)) = R := ⟨_, rfl⟩
  rw [hR]
  have HR := Lib.hid hR
  clear hR
  go_enter Tryd.func42, Tryd.ntmps42
  go_wp2_with fail
  have hW := HW.out
  unfold boxW at hW
  rw [hW]
  refine (T0.out _ (Below.refl _ _)).mono ?_
  rintro e w1 ⟨rfl, m1, rfl⟩
  obtain ⟨w1, hw1⟩ : ∃ w1, W.drewN m1 = w1 := ⟨_, rfl⟩
  rw [hw1]
  have hb1 : Below W.heap.size W w1 := by rw [← hw1]; exact below_drewN (Below.refl _ _) _
  have d2 : w1.cell? ⟨w.heap.size, 2, none⟩ = some (.slice B cs.length c2) := (hb1.cell (p := ⟨w.heap.size, 2, none⟩) (by have := HS.out; show w.heap.size < _; omega)).trans (by simpa using HB2.out 2)
  have QT := Lib.hid (show ∀ k, Calls Tryd.prog 63 #[.int .i64 1, .pointer (some ⟨w.heap.size + 1, 0, none⟩), .pointer (some ⟨w.heap.size, 0, none⟩)] (w1.drewN k) fun e w2 => e = .returned (.int .i64 a1) ∧ ∃ m, w2 = w1.drewN m from fun k => by
    refine (T1.out (w1.drewN k) (below_drewN hb1 k)).mono ?_
    rintro e w2 ⟨rfl, m, rfl⟩
    exact ⟨rfl, k + m, by rw [World.drewN_drewN]⟩)
  have HE := Lib.hid (HB.out.trans (hb1.mono HB.out.size))
  have hcell := Lib.hid (show ∀ (q : Nat), q < cs.length → ∃ b2 o2, B = some ⟨b2, o2, none⟩ ∧ w1.cell? ⟨b2, o2 + q, none⟩ = some (.int .i64 (nthI cs q)) from fun q hq => by
    obtain ⟨b2, o2, rfl, hb2, f2⟩ := HCS.out.2.2 (by omega)
    refine ⟨b2, o2, rfl, ?_⟩
    rw [HE.out.cell (p := ⟨b2, o2 + q, none⟩) hb2, f2 q hq]
    simp [nthI, List.getD_eq_getElem?_getD, List.getElem?_eq_getElem hq])
  have hcl := HCS.out.1
  clear hW hw1 hb1 T0 T1 HB HW HB2 HCS
  by_cases g1 : 1 ≤ a0
  · by_cases g2 : a0 ≤ cs.length
    · obtain ⟨q, rfl⟩ : ∃ q : Nat, a0 = (q : Int) + 1 := ⟨(a0 - 1).toNat, by omega⟩
      obtain ⟨b2, o2, rfl, x2⟩ := hcell.out q (by omega)
      have e : R = (nthI cs q == a1) := by
        rw [← HR.out, show ((q : Int) + 1 - 1).toNat = q by omega, decide_eq_true g1, decide_eq_true g2, Bool.true_and, Bool.true_and]
        rw [Bool.eq_iff_iff, beq_iff_eq, decide_eq_true_iff]
      have EE := Lib.hid e
      clear e HR
      generalize nthI cs q = u at *
      have z1 : (q : Int) + 1 - 1 = q := by omega
      have z2 : (0 : Int) ≤ (q : Int) := by omega
      have z3 : (q : Int) < (cs.length : Int) := by omega
      have i1 : decide ((1 : Int) ≤ (q : Int) + 1) = true := decide_eq_true (by omega)
      have i2 : decide ((q : Int) + 1 ≤ (cs.length : Int)) = true := decide_eq_true (by omega)
      clear hcell g1 g2
      go_wp2_with fail
      go_quiet ((go_at_call 63; exact QT.out _))
      go_wp2_with fail
      go_ret
      exact ⟨by rw [EE.out]; rfl, below_drewN HE.out _⟩
    · have e : R = false := by rw [← HR.out, decide_eq_false g2, Bool.and_false, Bool.false_and]
      subst e
      have g3 : (cs.length : Int) < a0 := by omega
      have i1 : decide ((1 : Int) ≤ a0) = true := decide_eq_true (by omega)
      have i2 : decide (a0 ≤ (cs.length : Int)) = false := decide_eq_false (by omega)
      clear g1 g2 g3 hcell HR
      go_wp2_with fail
      go_quiet (fail)
      go_wp2_with fail
      go_ret
      exact ⟨rfl, below_drewN HE.out _⟩
  · have e : R = false := by rw [← HR.out, decide_eq_false g1, Bool.false_and, Bool.false_and]
    subst e
    have g3 : a0 < 1 := by omega
    have i1 : decide ((1 : Int) ≤ a0) = false := decide_eq_false (by omega)
    clear g1 g3 hcell HR
    go_wp2_with fail
    go_quiet (fail)
    go_wp2_with fail
    go_ret
    exact ⟨rfl, below_drewN HE.out _⟩
end Go.Proofs.YtpejolnjnkcolaaDoor
