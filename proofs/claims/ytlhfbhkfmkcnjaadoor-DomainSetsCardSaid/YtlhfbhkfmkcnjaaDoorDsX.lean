/-
  The law of domains as sets returns true.
-/
import Derived.Test.YtlhfbhkfmkcnjaaDoorDsW
import Derived.Test.YtlhfbhkfmkcnjaaDoorAwLaw
namespace Go.Proofs.YtlhfbhkfmkcnjaaDoor
open Go Go.RowKit Go.Shelf Go.Ev

/-- slices of any length -/
def IntsU (w : World) (A : Option Addr) (xs : List Int) : Prop := (∀ x ∈ xs, -9223372036854775808 ≤ x ∧ x ≤ 9223372036854775807) ∧
  (0 < xs.length → ∃ b off, A = some ⟨b, off, none⟩ ∧ b < w.heap.size ∧ ∀ i (h : i < xs.length), w.cell? ⟨b, off + i, none⟩ = some (.int .i64 xs[i]))
theorem IntsU.small {w : World} {A : Option Addr} {xs : List Int} (h : IntsU w A xs) (hl : xs.length ≤ 1000000) : Ints w A xs := ⟨hl, h.1, h.2⟩
def PairsU (w : World) (A : Option Addr) (d : List (Int × Int)) : Prop := (∀ x ∈ d, (-9223372036854775808 ≤ x.1 ∧ x.1 ≤ 9223372036854775807) ∧ -9223372036854775808 ≤ x.2 ∧ x.2 ≤ 9223372036854775807) ∧
  (0 < d.length → ∃ b off, A = some ⟨b, off, none⟩ ∧ b < w.heap.size ∧ ∀ i (h : i < d.length), w.cell? ⟨b, off + i * 2, none⟩ = some (.int .i64 d[i].1) ∧ w.cell? ⟨b, off + i * 2 + 1, none⟩ = some (.int .i64 d[i].2))
theorem PairsU.small {w : World} {A : Option Addr} {d : List (Int × Int)} (h : PairsU w A d) (hl : d.length ≤ 1000000) : Pairs w A d := ⟨hl, h.1, h.2⟩

set_option maxHeartbeats 4000000 in
theorem large_any (a b : List (Int × Int)) (l : List Int) (v : Int) (A B D : Option Addr) (c1 c2 c3 : Nat) (w : World) (hT : TabIn w) (h : a.length > 600 ∨ b.length > 600 ∨ l.length > 3000) :
    Calls Tryd.prog 3 #[.slice A a.length c1, .slice B b.length c2, .slice D l.length c3, .int .i64 v] w fun e w' => e = .returned (.bool true) ∧ Below w.heap.size w w' := by
  have AW := Lib.hid (awake_any w hT)
  clear hT
  generalize a.length = n1 at *
  generalize b.length = n2 at *
  generalize l.length = n3 at *
  by_cases h1 : (n1 : Int) > 600
  · clear h
    go_enter Tryd.func3, Tryd.ntmps3
    go_wp2_with (go_at_call 6; refine AW.out.mono ?_; rintro e w1 ⟨rfl, hb⟩; have HB := Lib.hid hb; clear hb)
    go_ret
    exact ⟨rfl, HB.out⟩
  · by_cases h2 : (n2 : Int) > 600
    · clear h
      go_enter Tryd.func3, Tryd.ntmps3
      go_wp2_with (go_at_call 6; refine AW.out.mono ?_; rintro e w1 ⟨rfl, hb⟩; have HB := Lib.hid hb; clear hb)
      go_ret
      exact ⟨rfl, HB.out⟩
    · have h3 : (n3 : Int) > 3000 := by omega
      clear h
      go_enter Tryd.func3, Tryd.ntmps3
      go_wp2_with (go_at_call 6; refine AW.out.mono ?_; rintro e w1 ⟨rfl, hb⟩; have HB := Lib.hid hb; clear hb)
      go_ret
      exact ⟨rfl, HB.out⟩

/-- a call's answer behind what was done so far -/
theorem res_over {ok : Bool} {L : List Nat} {w w1 : World} {e : Ending} {w' : World} (hb : Below w.heap.size w w1) (h : ResOk ok L w1 e w') : ∃ G cap, e = .returned (.tuple #[.slice G (resD ok L).length cap, .int .i64 (resE ok)]) ∧ Pairs w' G (resD ok L) ∧ Below w.heap.size w w' ∧ Below w1.heap.size w1 w' := by
  obtain ⟨G, cap, he, hp, hk⟩ := h
  exact ⟨G, cap, he, hp, hb.trans (hk.mono hb.size), hk⟩
theorem same_any (xs : List (Int × Int)) (A B : Option Addr) (c1 c2 : Nat) (w : World) (ha : Pairs w A xs) (hb : Pairs w B xs) :
    Calls Tryd.prog 9 #[.slice A xs.length c1, .slice B xs.length c2] w fun e w' => e = .returned (.bool true) ∧ Below w.heap.size w w' := by
  have h := SameDom_any xs xs A B c1 c2 w ha hb
  rw [decide_eq_true rfl] at h
  exact h
theorem ints_same (xs : List Int) (A B : Option Addr) (c1 c2 : Nat) (w : World) (ha : Ints w A xs) (hb : Ints w B xs) :
    Calls Tryd.prog 18 #[.slice A xs.length c1, .slice B xs.length c2] w fun e w' => e = .returned (.bool true) ∧ Below w.heap.size w w' := by
  have h := ints_any xs xs A B c1 c2 w ha hb
  rw [decide_eq_true rfl] at h
  exact h
set_option maxRecDepth 100000 in
set_option maxHeartbeats 8000000 in
theorem small_any (a b : List (Int × Int)) (l : List Int) (v : Int) (A B D : Option Addr) (c1 c2 c3 : Nat) (w : World) (hT : TabIn w) (ha : Pairs w A a) (hb : Pairs w B b) (hd : Ints w D l) (h1 : a.length ≤ 600) (h2 : b.length ≤ 600) (h3 : l.length ≤ 3000) :
    Calls Tryd.prog 3 #[.slice A a.length c1, .slice B b.length c2, .slice D l.length c3, .int .i64 v] w fun e w' => e = .returned (.bool true) ∧ Below w.heap.size w w' := by
  have hTb : ∀ {w1}, Below w.heap.size w w1 → TabIn w1 := fun h => hT.below h hT.lt
  have MP := Lib.hid (fun w1 (h : Below w.heap.size w w1) => (Meet_p_any a b A B c1 c2 w1 (ha.over h) (hb.over h) (hTb h)).mono fun e w' k => res_over h k.res)
  have MR := Lib.hid (fun w1 (h : Below w.heap.size w w1) => (Meet_r_any a b A B c1 c2 w1 (ha.over h) (hb.over h)).mono fun e w' k => res_over h k.res)
  have JP := Lib.hid (fun w1 (h : Below w.heap.size w w1) => (Join_p_any a b A B c1 c2 w1 (ha.over h) (hb.over h) (hTb h)).mono fun e w' k => res_over h k.res)
  have JR := Lib.hid (fun w1 (h : Below w.heap.size w w1) => (Join_r_any a b A B c1 c2 w1 (ha.over h) (hb.over h)).mono fun e w' k => res_over h k.res)
  have NP := Lib.hid (fun w1 (h : Below w.heap.size w w1) => (Minus_p_any a b A B c1 c2 w1 (ha.over h) (hb.over h) (hTb h)).mono fun e w' k => res_over h k.res)
  have NR := Lib.hid (fun w1 (h : Below w.heap.size w w1) => (Minus_r_any a b A B c1 c2 w1 (ha.over h) (hb.over h)).mono fun e w' k => res_over h k.res)
  have OP := Lib.hid (fun w1 (h : Below w.heap.size w w1) => (Of_p_any l D c3 w1 (hd.over h) (hTb h)).mono fun e w' k => res_over h k.res)
  have OR := Lib.hid (fun w1 (h : Below w.heap.size w w1) => (Of_r_any l D c3 w1 (hd.over h)).mono fun e w' k => res_over h k.res)
  have VP := Lib.hid (fun w1 (h : Below w.heap.size w w1) => Valid_p_any a A c1 w1 (ha.over h))
  have VR := Lib.hid (fun w1 (h : Below w.heap.size w w1) => Valid_r_any a A c1 w1 (ha.over h))
  have LP := Lib.hid (fun w1 (h : Below w.heap.size w w1) => Values_p_any a A c1 w1 (ha.over h) (hTb h))
  have LR := Lib.hid (fun w1 (h : Below w.heap.size w w1) => Values_r_any a A c1 w1 (ha.over h))
  have HP := Lib.hid (fun w1 (h : Below w.heap.size w w1) => Has_p_any a v A c1 w1 (ha.over h))
  have HR := Lib.hid (fun w1 (h : Below w.heap.size w w1) => Has_r_any a v A c1 w1 (ha.over h))
  have SP := Lib.hid (fun w1 (h : Below w.heap.size w w1) => Size_p_any a A c1 w1 (ha.over h))
  have SR := Lib.hid (fun w1 (h : Below w.heap.size w w1) => Size_r_any a A c1 w1 (ha.over h))
  have AW := Lib.hid (fun w1 (h : Below w.heap.size w w1) => awake_any w1 (hTb h))
  clear ha hb hd hT hTb
  obtain ⟨D1, hD1⟩ : ∃ D, resD (vd 0 a && vd 0 b) (combV (fun p q => p && q) a b) = D := ⟨_, rfl⟩
  obtain ⟨D2, hD2⟩ : ∃ D, resD (vd 0 a && vd 0 b) (combV (fun p q => p || q) a b) = D := ⟨_, rfl⟩
  obtain ⟨D3, hD3⟩ : ∃ D, resD (vd 0 a && vd 0 b) (combV (fun p q => p && !q) a b) = D := ⟨_, rfl⟩
  obtain ⟨D4, hD4⟩ : ∃ D, resD (l.all okB) (ofV l) = D := ⟨_, rfl⟩
  obtain ⟨E1, hE1⟩ : ∃ E, resE (vd 0 a && vd 0 b) = E := ⟨_, rfl⟩
  obtain ⟨E4, hE4⟩ : ∃ E, resE (l.all okB) = E := ⟨_, rfl⟩
  simp only [hD1, hD2, hD3, hD4, hE1, hE4] at MP MR JP JR NP NR OP OR
  clear hD1 hD2 hD3 hD4 hE1 hE4
  obtain ⟨U, hU⟩ : ∃ U, valsV a = U := ⟨_, rfl⟩
  have IR : ∀ (W : World) (base cap : Nat) (G : Option Addr), W.ownsRow base 3 1 (.slice G U.length cap) U.length (U.map (Value.int .i64)) → Ints W G U := fun W base cap G h => by
    subst hU; exact ints_of_row h
  rw [hU] at LP LR
  have IRH := Lib.hid IR
  clear hU IR
  generalize vd 0 a = va at *
  generalize hasV a v = hv at *
  generalize szV a = sv at *
  have z1 : (a.length : Int) ≤ 600 := by omega
  have z2 : (b.length : Int) ≤ 600 := by omega
  have z3 : (l.length : Int) ≤ 3000 := by omega
  generalize a.length = n1 at *
  generalize b.length = n2 at *
  generalize l.length = n3 at *
  clear h1 h2 h3
  go_enter Tryd.func3, Tryd.ntmps3
  go_wp2_with (first
    | (go_at_call 7; refine (MP.out _ (Below.refl _ _)).mono ?_; rintro e w1 ⟨G1, k1, rfl, hp, hb, _⟩; have HC := Lib.hid hp; have HB := Lib.hid hb; clear hp hb MP)
    | (go_at_call 8; refine (MR.out _ HB.out).mono ?_; rintro e w2 ⟨G2, k2, rfl, hp, hb, ho⟩; have HD := Lib.hid hp; have HC := Lib.hid (HC.out.over ho); have HB := Lib.hid hb; clear hp hb ho MR)
    | (go_at_call 10; refine (JP.out _ HB.out).mono ?_; rintro e w3 ⟨G3, k3, rfl, hp, hb, _⟩; have HC := Lib.hid hp; have HB := Lib.hid hb; clear hp hb JP)
    | (go_at_call 11; refine (JR.out _ HB.out).mono ?_; rintro e w4 ⟨G4, k4, rfl, hp, hb, ho⟩; have HD := Lib.hid hp; have HC := Lib.hid (HC.out.over ho); have HB := Lib.hid hb; clear hp hb ho JR)
    | (go_at_call 12; refine (NP.out _ HB.out).mono ?_; rintro e w5 ⟨G5, k5, rfl, hp, hb, _⟩; have HC := Lib.hid hp; have HB := Lib.hid hb; clear hp hb NP)
    | (go_at_call 13; refine (NR.out _ HB.out).mono ?_; rintro e w6 ⟨G6, k6, rfl, hp, hb, ho⟩; have HD := Lib.hid hp; have HC := Lib.hid (HC.out.over ho); have HB := Lib.hid hb; clear hp hb ho NR)
    | (go_at_call 14; refine (OP.out _ HB.out).mono ?_; rintro e w7 ⟨G7, k7, rfl, hp, hb, _⟩; have HC := Lib.hid hp; have HB := Lib.hid hb; clear hp hb OP)
    | (go_at_call 15; refine (OR.out _ HB.out).mono ?_; rintro e w8 ⟨G8, k8, rfl, hp, hb, ho⟩; have HD := Lib.hid hp; have HC := Lib.hid (HC.out.over ho); have HB := Lib.hid hb; clear hp hb ho OR)
    | (go_at_call 9; refine (same_any _ _ _ _ _ _ HC.out HD.out).mono ?_; rintro e wx ⟨rfl, hb⟩; have HB := Lib.hid (HB.out.trans (hb.mono HB.out.size)); clear hb HC HD)
    | (go_at_call 16; refine (VP.out _ HB.out).mono ?_; rintro e wx ⟨rfl, hb⟩; have HB := Lib.hid (HB.out.trans (hb.mono HB.out.size)); clear hb VP)
    | (go_at_call 17; refine (VR.out _ HB.out).mono ?_; rintro e wx ⟨rfl, hb⟩; have HB := Lib.hid (HB.out.trans (hb.mono HB.out.size)); clear hb VR)
    | (go_at_call 19; refine (LP.out _ HB.out).mono ?_; rintro e wx ⟨G9, k9, rfl, hp, hb⟩; have HC := Lib.hid (IRH.out _ _ _ _ hp); have HB := Lib.hid (HB.out.trans (hb.mono HB.out.size)); clear hp hb LP)
    | (go_at_call 20; refine (LR.out _ HB.out).mono ?_; rintro e wx ⟨G10, k10, rfl, hp, hb⟩; have HD := Lib.hid (IRH.out _ _ _ _ hp); have HC := Lib.hid (HC.out.over hb); have HB := Lib.hid (HB.out.trans (hb.mono HB.out.size)); clear hp hb LR)
    | (go_at_call 18; refine (ints_same _ _ _ _ _ _ HC.out HD.out).mono ?_; rintro e wx ⟨rfl, hb⟩; have HB := Lib.hid (HB.out.trans (hb.mono HB.out.size)); clear hb HC HD)
    | (go_at_call 21; refine (HP.out _ HB.out).mono ?_; rintro e wx ⟨rfl, hb⟩; have HB := Lib.hid (HB.out.trans (hb.mono HB.out.size)); clear hb HP)
    | (go_at_call 22; refine (HR.out _ HB.out).mono ?_; rintro e wx ⟨rfl, hb⟩; have HB := Lib.hid (HB.out.trans (hb.mono HB.out.size)); clear hb HR)
    | (go_at_call 23; refine (SP.out _ HB.out).mono ?_; rintro e wx ⟨rfl, hb⟩; have HB := Lib.hid (HB.out.trans (hb.mono HB.out.size)); clear hb SP)
    | (go_at_call 24; refine (SR.out _ HB.out).mono ?_; rintro e wx ⟨rfl, hb⟩; have HB := Lib.hid (HB.out.trans (hb.mono HB.out.size)); clear hb SR)
    | (go_at_call 6; refine (AW.out _ HB.out).mono ?_; rintro e wx ⟨rfl, hb⟩; have HB := Lib.hid (HB.out.trans (hb.mono HB.out.size)); clear hb AW))
  go_ret
  exact ⟨rfl, HB.out⟩
theorem DomainSets_any (a b : List (Int × Int)) (l : List Int) (v : Int) (A B D : Option Addr) (c1 c2 c3 : Nat) (w : World) (hT : TabIn w) (ha : PairsU w A a) (hb : PairsU w B b) (hd : IntsU w D l) :
    Calls Tryd.prog 3 #[.slice A a.length c1, .slice B b.length c2, .slice D l.length c3, .int .i64 v] w fun e w' => e = .returned (.bool true) ∧ Below w.heap.size w w' := by
  by_cases h : a.length > 600 ∨ b.length > 600 ∨ l.length > 3000
  · exact large_any a b l v A B D c1 c2 c3 w hT h
  · exact small_any a b l v A B D c1 c2 c3 w hT (ha.small (by omega)) (hb.small (by omega)) (hd.small (by omega)) (by omega) (by omega) (by omega)
end Go.Proofs.YtlhfbhkfmkcnjaaDoor
