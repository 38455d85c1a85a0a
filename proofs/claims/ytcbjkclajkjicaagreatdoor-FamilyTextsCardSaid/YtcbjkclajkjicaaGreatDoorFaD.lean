/-
  Lists of elements; valid families: both sides' words.
-/
import Derived.Test.YtcbjkclajkjicaaGreatDoorFhA
namespace Go.Proofs.YtcbjkclajkjicaaGreatDoor
open Go Go.RowKit Go.Ev

def inR (n : Int) : Bool := decide (0 ≤ n) && decide (n ≤ 63)
def inS (n : Int) : Bool := decide (0 ≤ n) && decide (n ≤ 64)
/-- a list of elements, ascending -/
def elemsB (l : List Int) : Bool := ascB l && l.all inR
def validFB (lo hi : List Int) (mn mx : Int) : Bool := elemsB lo && elemsB hi && inS mn && inS mx
theorem elems_ends {l : List Int} {m : Nat} (h : ascB l = true) (hm : l.length = m + 1) : l.all inR = (inR (l[0]'(by omega)) && inR (l[m]'(by omega))) := by
  rw [Bool.eq_iff_iff, List.all_eq_true, Bool.and_eq_true]
  constructor
  · intro k
    exact ⟨k _ (List.getElem_mem _), k _ (List.getElem_mem _)⟩
  · rintro ⟨h0, h1⟩ x hx
    obtain ⟨j, hj, rfl⟩ := List.getElem_of_mem hx
    unfold inR at h0 h1 ⊢
    simp only [Bool.and_eq_true, decide_eq_true_eq] at h0 h1 ⊢
    have a1 : l[0] ≤ l[j] := by
      rcases Nat.eq_zero_or_pos j with rfl | hp
      · exact Int.le_refl _
      · have := ascB_lt h 0 j hp hj; omega
    have a2 : l[j] ≤ l[m] := by
      rcases Nat.lt_or_ge j m with hp | hp
      · have := ascB_lt h j m hp (by omega); omega
      · obtain rfl : j = m := by omega
        exact Int.le_refl _
    omega
theorem inR_ends {a b : Int} (h : a ≤ b) : (inR a && inR b) = (decide (0 ≤ a) && decide (b ≤ 63)) := by
  rw [Bool.eq_iff_iff]
  simp only [inR, Bool.and_eq_true, decide_eq_true_eq]
  omega
theorem isElement_any (n : Int) (w : World) : Calls Tryz.prog 79 #[.int .i64 n] w fun e w' => e = .returned (.bool (inR n)) ∧ w' = w := by
  unfold inR
  by_cases h0 : 0 ≤ n
  · by_cases h1 : n ≤ 63
    · rw [decide_eq_true h0, decide_eq_true h1]
      go_enter Tryz.func79, Tryz.ntmps79
      go_wp2_with fail
      go_ret
      exact ⟨rfl, rfl⟩
    · rw [decide_eq_true h0, decide_eq_false h1]
      go_enter Tryz.func79, Tryz.ntmps79
      go_wp2_with fail
      go_ret
      exact ⟨rfl, rfl⟩
  · rw [decide_eq_false h0]
    go_enter Tryz.func79, Tryz.ntmps79
    go_wp2_with fail
    go_ret
    exact ⟨rfl, rfl⟩
theorem isSize_any (n : Int) (w : World) : Calls Tryz.prog 56 #[.int .i64 n] w fun e w' => e = .returned (.bool (inS n)) ∧ w' = w := by
  unfold inS
  by_cases h0 : 0 ≤ n
  · by_cases h1 : n ≤ 64
    · rw [decide_eq_true h0, decide_eq_true h1]
      go_enter Tryz.func56, Tryz.ntmps56
      go_wp2_with fail
      go_ret
      exact ⟨rfl, rfl⟩
    · rw [decide_eq_true h0, decide_eq_false h1]
      go_enter Tryz.func56, Tryz.ntmps56
      go_wp2_with fail
      go_ret
      exact ⟨rfl, rfl⟩
  · rw [decide_eq_false h0]
    go_enter Tryz.func56, Tryz.ntmps56
    go_wp2_with fail
    go_ret
    exact ⟨rfl, rfl⟩
set_option maxRecDepth 100000 in
set_option maxHeartbeats 2000000 in
theorem areElements_any (l : List Int) (A : Option Addr) (c : Nat) (w : World) (ha : Ints w A l) :
    Calls Tryz.prog 55 #[.slice A l.length c] w fun e w' => e = .returned (.bool (elemsB l)) ∧ Below w.heap.size w w' := by
  have AS := Lib.hid (ascends_any l A c w ha)
  have HA := Lib.hid ha
  have hl := ha.1
  have IE := Lib.hid isElement_any
  clear ha
  unfold elemsB
  cases hasc : ascB l with
  | false =>
    rw [hasc] at AS
    simp only [Bool.false_and]
    clear hasc HA
    generalize l.length = n at *
    go_enter Tryz.func55, Tryz.ntmps55
    go_wp2_with (go_at_call 86; refine AS.out.mono ?_; rintro e w1 ⟨rfl, hb⟩; have HB := Lib.hid hb; clear hb AS)
    go_ret
    exact ⟨rfl, HB.out⟩
  | true =>
    rw [hasc] at AS
    simp only [Bool.true_and]
    rcases Nat.eq_zero_or_pos l.length with h0 | hp
    · obtain rfl : l = [] := List.eq_nil_of_length_eq_zero h0
      clear HA hasc h0
      go_enter Tryz.func55, Tryz.ntmps55
      go_wp2_with (go_at_call 86; refine AS.out.mono ?_; rintro e w1 ⟨rfl, hb⟩; have HB := Lib.hid hb; clear hb AS)
      go_ret
      exact ⟨rfl, HB.out⟩
    · obtain ⟨m, hm⟩ : ∃ m, l.length = m + 1 := ⟨l.length - 1, by omega⟩
      rw [elems_ends hasc hm]
      obtain ⟨b, o, rfl, hb, hc⟩ := HA.out.2.2 hp
      have x0 := hc 0 (by omega)
      have x1 := hc m (by omega)
      simp only [Nat.add_zero] at x0
      generalize l[0]'(by omega) = p at *
      generalize l[m]'(by omega) = q at *
      rw [hm] at AS hl ⊢
      have GX := Lib.hid (show ∀ wx, Below w.heap.size w wx → wx.cell? ⟨b, o, none⟩ = some (.int .i64 p) ∧ wx.cell? ⟨b, o + m, none⟩ = some (.int .i64 q) from fun wx h => ⟨(h.cell (p := ⟨b, o, none⟩) hb).trans x0, (h.cell (p := ⟨b, o + m, none⟩) hb).trans x1⟩)
      have z1 : (0 : Int) < (m : Int) + 1 := by omega
      have z2 : (((m : Int) + 1) == 0) = false := by simp; omega
      have z3 : (m : Int) < (m : Int) + 1 := by omega
      have z4 : (0 : Int) ≤ (m : Int) := by omega
      have z5 : (m : Int) + 1 - 1 = m := by omega
      clear hc x0 x1 HA hasc hp hm
      cases hpp : inR p with
      | false =>
        have E1 := Lib.hid (IE.out p)
        rw [hpp] at E1
        simp only [Bool.false_and]
        clear hpp IE
        go_enter Tryz.func55, Tryz.ntmps55
        go_wp2_with (first | (go_at_call 86; refine AS.out.mono ?_; rintro e w1 ⟨rfl, hb⟩; have HB := Lib.hid hb; obtain ⟨y0, y1⟩ := GX.out _ hb; clear hb AS) | (go_at_call 79; refine (E1.out _).mono ?_; rintro e w2 ⟨rfl, rfl⟩; clear E1))
        go_ret
        exact ⟨rfl, HB.out⟩
      | true =>
        have E1 := Lib.hid (IE.out p)
        rw [hpp] at E1
        have E2 := Lib.hid (IE.out q)
        simp only [Bool.true_and]
        generalize inR q = Z at *
        clear hpp IE
        go_enter Tryz.func55, Tryz.ntmps55
        go_wp2_with (first | (go_at_call 86; refine AS.out.mono ?_; rintro e w1 ⟨rfl, hb⟩; have HB := Lib.hid hb; obtain ⟨y0, y1⟩ := GX.out _ hb; clear hb AS) | (go_at_call 79; refine (E1.out _).mono ?_; rintro e w2 ⟨rfl, rfl⟩; clear E1) | (go_at_call 79; refine (E2.out _).mono ?_; rintro e w2 ⟨rfl, rfl⟩; clear E2))
        go_ret
        exact ⟨rfl, HB.out⟩
end Go.Proofs.YtcbjkclajkjicaaGreatDoor

/-
  Valid families: both sides' words.
-/
namespace Go.Proofs.YtcbjkclajkjicaaGreatDoor
set_option linter.unusedSimpArgs false
open Go Go.RowKit Go.Ev

set_option maxRecDepth 100000 in
set_option maxHeartbeats 2000000 in
theorem numbers_any (l : List Int) (A : Option Addr) (c : Nat) (w : World) (ha : Ints w A l) :
    Calls Tryz.prog 39 #[.slice A l.length c] w fun e w' => e = .returned (.bool (elemsB l)) ∧ Below w.heap.size w w' := by
  have AS := Lib.hid (ascending_any l A c w ha)
  have HA := Lib.hid ha
  have hl := ha.1
  clear ha
  unfold elemsB
  cases hasc : ascB l with
  | false =>
    rw [hasc] at AS
    simp only [Bool.false_and]
    clear hasc HA
    generalize l.length = n at *
    go_enter Tryz.func39, Tryz.ntmps39
    go_wp2_with (go_at_call 67; refine AS.out.mono ?_; rintro e w1 ⟨rfl, hb⟩; have HB := Lib.hid hb; clear hb AS)
    go_ret
    exact ⟨rfl, HB.out⟩
  | true =>
    rw [hasc] at AS
    simp only [Bool.true_and]
    rcases Nat.eq_zero_or_pos l.length with h0 | hp
    · obtain rfl : l = [] := List.eq_nil_of_length_eq_zero h0
      clear HA hasc h0
      go_enter Tryz.func39, Tryz.ntmps39
      go_wp2_with (go_at_call 67; refine AS.out.mono ?_; rintro e w1 ⟨rfl, hb⟩; have HB := Lib.hid hb; clear hb AS)
      go_ret
      exact ⟨rfl, HB.out⟩
    · obtain ⟨m, hm⟩ : ∃ m, l.length = m + 1 := ⟨l.length - 1, by omega⟩
      have hle : l[0] ≤ l[m] := by
        rcases Nat.eq_zero_or_pos m with rfl | h
        · exact Int.le_refl _
        · have := ascB_lt hasc 0 m h (by omega); omega
      rw [elems_ends hasc hm, inR_ends hle]
      obtain ⟨b, o, rfl, hb, hc⟩ := HA.out.2.2 hp
      have x0 := hc 0 (by omega)
      have x1 := hc m (by omega)
      simp only [Nat.add_zero] at x0
      clear hle
      generalize l[0]'(by omega) = p at *
      generalize l[m]'(by omega) = q at *
      rw [hm] at AS hl ⊢
      have GX := Lib.hid (show ∀ wx, Below w.heap.size w wx → wx.cell? ⟨b, o, none⟩ = some (.int .i64 p) ∧ wx.cell? ⟨b, o + m, none⟩ = some (.int .i64 q) from fun wx h => ⟨(h.cell (p := ⟨b, o, none⟩) hb).trans x0, (h.cell (p := ⟨b, o + m, none⟩) hb).trans x1⟩)
      have z1 : (0 : Int) < (m : Int) + 1 := by omega
      have z2 : (((m : Int) + 1) == 0) = false := by simp; omega
      have z3 : (m : Int) < (m : Int) + 1 := by omega
      have z4 : (0 : Int) ≤ (m : Int) := by omega
      have z5 : (m : Int) + 1 - 1 = m := by omega
      clear hc x0 x1 HA hasc hp hm
      by_cases hpp : 0 ≤ p
      · by_cases hqq : q ≤ 63
        · rw [decide_eq_true hpp, decide_eq_true hqq]
          go_enter Tryz.func39, Tryz.ntmps39
          go_wp2_with (go_at_call 67; refine AS.out.mono ?_; rintro e w1 ⟨rfl, hb⟩; have HB := Lib.hid hb; obtain ⟨y0, y1⟩ := GX.out _ hb; clear hb AS)
          go_ret
          exact ⟨rfl, HB.out⟩
        · rw [decide_eq_true hpp, decide_eq_false hqq]
          go_enter Tryz.func39, Tryz.ntmps39
          go_wp2_with (go_at_call 67; refine AS.out.mono ?_; rintro e w1 ⟨rfl, hb⟩; have HB := Lib.hid hb; obtain ⟨y0, y1⟩ := GX.out _ hb; clear hb AS)
          go_ret
          exact ⟨by first | rfl | simp_all, HB.out⟩
      · rw [decide_eq_false hpp]
        go_enter Tryz.func39, Tryz.ntmps39
        go_wp2_with (go_at_call 67; refine AS.out.mono ?_; rintro e w1 ⟨rfl, hb⟩; have HB := Lib.hid hb; obtain ⟨y0, y1⟩ := GX.out _ hb; clear hb AS)
        go_ret
        exact ⟨rfl, HB.out⟩
/-- a family as a value -/
def famV (A B : Option Addr) (lo hi : List Int) (c1 c2 : Nat) (mn mx : Int) : Array Value := #[.slice A lo.length c1, .slice B hi.length c2, .int .i64 mn, .int .i64 mx]
set_option maxRecDepth 100000 in
set_option maxHeartbeats 4000000 in
theorem FValid_p_any (lo hi : List Int) (mn mx : Int) (A B : Option Addr) (c1 c2 : Nat) (w : World) (ha : Ints w A lo) (hb : Ints w B hi) :
    Calls Tryz.prog 30 #[.agg #[.slice A lo.length c1, .slice B hi.length c2, .int .i64 mn, .int .i64 mx]] w fun e w' => e = .returned (.bool (validFB lo hi mn mx)) ∧ Below w.heap.size w w' := by
  have LA := Lib.hid (fun w1 (h : Below w.heap.size w w1) => areElements_any lo A c1 w1 (ha.over h))
  have HA := Lib.hid (fun w1 (h : Below w.heap.size w w1) => areElements_any hi B c2 w1 (hb.over h))
  have hl1 := ha.1
  have hl2 := hb.1
  clear ha hb
  unfold validFB
  generalize elemsB lo = X at *
  generalize elemsB hi = Y at *
  generalize lo.length = n1 at *
  generalize hi.length = n2 at *
  have SA := Lib.hid (isSize_any mn)
  have SB := Lib.hid (isSize_any mx)
  generalize inS mn = U at *
  generalize inS mx = V at *
  have BA := Lib.hid (show Below w.heap.size w (w.alloc (.cells #[.slice A n1 c1, .slice B n2 c2, .int .i64 mn, .int .i64 mx] 24)) from (Below.refl _ w).alloc (Nat.le_refl _) _)
  have BX := Lib.hid (show ∀ wx, Below (w.heap.size + 1) (w.alloc (.cells #[.slice A n1 c1, .slice B n2 c2, .int .i64 mn, .int .i64 mx] 24)) wx → wx.cell? ⟨w.heap.size, 0, none⟩ = some (.slice A n1 c1) ∧ wx.cell? ⟨w.heap.size, 1, none⟩ = some (.slice B n2 c2) ∧ wx.cell? ⟨w.heap.size, 2, none⟩ = some (.int .i64 mn) ∧ wx.cell? ⟨w.heap.size, 3, none⟩ = some (.int .i64 mx) from
    fun wx h => ⟨(h.cell (p := ⟨w.heap.size, 0, none⟩) (by simp)).trans (by simp [go_sem]), (h.cell (p := ⟨w.heap.size, 1, none⟩) (by simp)).trans (by simp [go_sem]), (h.cell (p := ⟨w.heap.size, 2, none⟩) (by simp)).trans (by simp [go_sem]), (h.cell (p := ⟨w.heap.size, 3, none⟩) (by simp)).trans (by simp [go_sem])⟩)
  cases X with
  | false =>
    simp only [Bool.false_and]
    go_enter Tryz.func30, Tryz.ntmps30
    go_wp2_with (first | (go_at_call 55; refine (LA.out _ BA.out).mono ?_; rintro e w1 ⟨rfl, hb⟩; have H1 := Lib.hid (show Below (w.heap.size + 1) _ _ from hb.mono (by simp)); have HB := Lib.hid (BA.out.trans (hb.mono BA.out.size)); obtain ⟨y0, y1, y2, y3⟩ := BX.out _ H1.out; clear hb LA) | (go_at_call 55; refine (HA.out _ HB.out).mono ?_; rintro e w2 ⟨rfl, hb⟩; clear y0 y1 y2 y3; have H2 := Lib.hid (H1.out.trans (hb.mono (by have := H1.out.size; simp at this; omega))); have HB := Lib.hid (HB.out.trans (hb.mono HB.out.size)); obtain ⟨y0, y1, y2, y3⟩ := BX.out _ H2.out; clear hb HA H1) | (go_at_call 56; refine (SA.out _).mono ?_; rintro e w3 ⟨rfl, rfl⟩; clear SA) | (go_at_call 56; refine (SB.out _).mono ?_; rintro e w4 ⟨rfl, rfl⟩; clear SB))
    go_ret
    exact ⟨rfl, HB.out⟩
  | true =>
    cases Y with
    | false =>
      simp only [Bool.true_and, Bool.false_and]
      go_enter Tryz.func30, Tryz.ntmps30
      go_wp2_with (first | (go_at_call 55; refine (LA.out _ BA.out).mono ?_; rintro e w1 ⟨rfl, hb⟩; have H1 := Lib.hid (show Below (w.heap.size + 1) _ _ from hb.mono (by simp)); have HB := Lib.hid (BA.out.trans (hb.mono BA.out.size)); obtain ⟨y0, y1, y2, y3⟩ := BX.out _ H1.out; clear hb LA) | (go_at_call 55; refine (HA.out _ HB.out).mono ?_; rintro e w2 ⟨rfl, hb⟩; clear y0 y1 y2 y3; have H2 := Lib.hid (H1.out.trans (hb.mono (by have := H1.out.size; simp at this; omega))); have HB := Lib.hid (HB.out.trans (hb.mono HB.out.size)); obtain ⟨y0, y1, y2, y3⟩ := BX.out _ H2.out; clear hb HA H1) | (go_at_call 56; refine (SA.out _).mono ?_; rintro e w3 ⟨rfl, rfl⟩; clear SA) | (go_at_call 56; refine (SB.out _).mono ?_; rintro e w4 ⟨rfl, rfl⟩; clear SB))
      go_ret
      exact ⟨rfl, HB.out⟩
    | true =>
      simp only [Bool.true_and]
      cases U with
      | false =>
        simp only [Bool.false_and]
        go_enter Tryz.func30, Tryz.ntmps30
        go_wp2_with (first | (go_at_call 55; refine (LA.out _ BA.out).mono ?_; rintro e w1 ⟨rfl, hb⟩; have H1 := Lib.hid (show Below (w.heap.size + 1) _ _ from hb.mono (by simp)); have HB := Lib.hid (BA.out.trans (hb.mono BA.out.size)); obtain ⟨y0, y1, y2, y3⟩ := BX.out _ H1.out; clear hb LA) | (go_at_call 55; refine (HA.out _ HB.out).mono ?_; rintro e w2 ⟨rfl, hb⟩; clear y0 y1 y2 y3; have H2 := Lib.hid (H1.out.trans (hb.mono (by have := H1.out.size; simp at this; omega))); have HB := Lib.hid (HB.out.trans (hb.mono HB.out.size)); obtain ⟨y0, y1, y2, y3⟩ := BX.out _ H2.out; clear hb HA H1) | (go_at_call 56; refine (SA.out _).mono ?_; rintro e w3 ⟨rfl, rfl⟩; clear SA) | (go_at_call 56; refine (SB.out _).mono ?_; rintro e w4 ⟨rfl, rfl⟩; clear SB))
        go_ret
        exact ⟨rfl, HB.out⟩
      | true =>
        simp only [Bool.true_and]
        cases V
        all_goals
          go_enter Tryz.func30, Tryz.ntmps30
          go_wp2_with (first | (go_at_call 55; refine (LA.out _ BA.out).mono ?_; rintro e w1 ⟨rfl, hb⟩; have H1 := Lib.hid (show Below (w.heap.size + 1) _ _ from hb.mono (by simp)); have HB := Lib.hid (BA.out.trans (hb.mono BA.out.size)); obtain ⟨y0, y1, y2, y3⟩ := BX.out _ H1.out; clear hb LA) | (go_at_call 55; refine (HA.out _ HB.out).mono ?_; rintro e w2 ⟨rfl, hb⟩; clear y0 y1 y2 y3; have H2 := Lib.hid (H1.out.trans (hb.mono (by have := H1.out.size; simp at this; omega))); have HB := Lib.hid (HB.out.trans (hb.mono HB.out.size)); obtain ⟨y0, y1, y2, y3⟩ := BX.out _ H2.out; clear hb HA H1) | (go_at_call 56; refine (SA.out _).mono ?_; rintro e w3 ⟨rfl, rfl⟩; clear SA) | (go_at_call 56; refine (SB.out _).mono ?_; rintro e w4 ⟨rfl, rfl⟩; clear SB))
          go_ret
          exact ⟨rfl, HB.out⟩
set_option maxRecDepth 100000 in
set_option maxHeartbeats 4000000 in
theorem FValid_r_any (lo hi : List Int) (mn mx : Int) (A B : Option Addr) (c1 c2 : Nat) (w : World) (ha : Ints w A lo) (hb : Ints w B hi) :
    Calls Tryz.prog 23 #[.agg #[.slice A lo.length c1, .slice B hi.length c2, .int .i64 mn, .int .i64 mx]] w fun e w' => e = .returned (.bool (validFB lo hi mn mx)) ∧ Below w.heap.size w w' := by
  have LA := Lib.hid (fun w1 (h : Below w.heap.size w w1) => numbers_any lo A c1 w1 (ha.over h))
  have HA := Lib.hid (fun w1 (h : Below w.heap.size w w1) => numbers_any hi B c2 w1 (hb.over h))
  have hl1 := ha.1
  have hl2 := hb.1
  clear ha hb
  unfold validFB
  generalize elemsB lo = X at *
  generalize elemsB hi = Y at *
  generalize lo.length = n1 at *
  generalize hi.length = n2 at *
  have BA := Lib.hid (show Below w.heap.size w (w.alloc (.cells #[.slice A n1 c1, .slice B n2 c2, .int .i64 mn, .int .i64 mx] 24)) from (Below.refl _ w).alloc (Nat.le_refl _) _)
  have BX := Lib.hid (show ∀ wx, Below (w.heap.size + 1) (w.alloc (.cells #[.slice A n1 c1, .slice B n2 c2, .int .i64 mn, .int .i64 mx] 24)) wx → wx.cell? ⟨w.heap.size, 0, none⟩ = some (.slice A n1 c1) ∧ wx.cell? ⟨w.heap.size, 1, none⟩ = some (.slice B n2 c2) ∧ wx.cell? ⟨w.heap.size, 2, none⟩ = some (.int .i64 mn) ∧ wx.cell? ⟨w.heap.size, 3, none⟩ = some (.int .i64 mx) from
    fun wx h => ⟨(h.cell (p := ⟨w.heap.size, 0, none⟩) (by simp)).trans (by simp [go_sem]), (h.cell (p := ⟨w.heap.size, 1, none⟩) (by simp)).trans (by simp [go_sem]), (h.cell (p := ⟨w.heap.size, 2, none⟩) (by simp)).trans (by simp [go_sem]), (h.cell (p := ⟨w.heap.size, 3, none⟩) (by simp)).trans (by simp [go_sem])⟩)
  cases X with
  | false =>
    simp only [Bool.false_and]
    go_enter Tryz.func23, Tryz.ntmps23
    go_wp2_with (first | (go_at_call 39; refine (LA.out _ BA.out).mono ?_; rintro e w1 ⟨rfl, hb⟩; have H1 := Lib.hid (show Below (w.heap.size + 1) _ _ from hb.mono (by simp)); have HB := Lib.hid (BA.out.trans (hb.mono BA.out.size)); obtain ⟨y0, y1, y2, y3⟩ := BX.out _ H1.out; clear hb LA) | (go_at_call 39; refine (HA.out _ HB.out).mono ?_; rintro e w2 ⟨rfl, hb⟩; clear y0 y1 y2 y3; have H2 := Lib.hid (H1.out.trans (hb.mono (by have := H1.out.size; simp at this; omega))); have HB := Lib.hid (HB.out.trans (hb.mono HB.out.size)); obtain ⟨y0, y1, y2, y3⟩ := BX.out _ H2.out; clear hb HA H1))
    go_ret
    exact ⟨rfl, HB.out⟩
  | true =>
    cases Y with
    | false =>
      simp only [Bool.true_and, Bool.false_and]
      go_enter Tryz.func23, Tryz.ntmps23
      go_wp2_with (first | (go_at_call 39; refine (LA.out _ BA.out).mono ?_; rintro e w1 ⟨rfl, hb⟩; have H1 := Lib.hid (show Below (w.heap.size + 1) _ _ from hb.mono (by simp)); have HB := Lib.hid (BA.out.trans (hb.mono BA.out.size)); obtain ⟨y0, y1, y2, y3⟩ := BX.out _ H1.out; clear hb LA) | (go_at_call 39; refine (HA.out _ HB.out).mono ?_; rintro e w2 ⟨rfl, hb⟩; clear y0 y1 y2 y3; have H2 := Lib.hid (H1.out.trans (hb.mono (by have := H1.out.size; simp at this; omega))); have HB := Lib.hid (HB.out.trans (hb.mono HB.out.size)); obtain ⟨y0, y1, y2, y3⟩ := BX.out _ H2.out; clear hb HA H1))
      go_ret
      exact ⟨rfl, HB.out⟩
    | true =>
      simp only [Bool.true_and]
      have E := Lib.hid (show (inS mn && inS mx) = (decide (0 ≤ mn) && decide (0 ≤ mx) && decide (mn ≤ 64) && decide (mx ≤ 64)) by rw [Bool.eq_iff_iff]; simp only [inS, Bool.and_eq_true, decide_eq_true_eq]; omega)
      rw [E.out]
      clear E
      by_cases q0 : 0 ≤ mn
      · rw [decide_eq_true q0]
        by_cases q1 : 0 ≤ mx
        · rw [decide_eq_true q1]
          by_cases q2 : mn ≤ 64
          · rw [decide_eq_true q2]
            by_cases q3 : mx ≤ 64
            · rw [decide_eq_true q3]
              go_enter Tryz.func23, Tryz.ntmps23
              go_wp2_with (first | (go_at_call 39; refine (LA.out _ BA.out).mono ?_; rintro e w1 ⟨rfl, hb⟩; have H1 := Lib.hid (show Below (w.heap.size + 1) _ _ from hb.mono (by simp)); have HB := Lib.hid (BA.out.trans (hb.mono BA.out.size)); obtain ⟨y0, y1, y2, y3⟩ := BX.out _ H1.out; clear hb LA) | (go_at_call 39; refine (HA.out _ HB.out).mono ?_; rintro e w2 ⟨rfl, hb⟩; clear y0 y1 y2 y3; have H2 := Lib.hid (H1.out.trans (hb.mono (by have := H1.out.size; simp at this; omega))); have HB := Lib.hid (HB.out.trans (hb.mono HB.out.size)); obtain ⟨y0, y1, y2, y3⟩ := BX.out _ H2.out; clear hb HA H1))
              go_ret
              exact ⟨by first | rfl | simp_all, HB.out⟩
            · rw [decide_eq_false q3]
              (try simp only [Bool.false_and, Bool.and_false])
              go_enter Tryz.func23, Tryz.ntmps23
              go_wp2_with (first | (go_at_call 39; refine (LA.out _ BA.out).mono ?_; rintro e w1 ⟨rfl, hb⟩; have H1 := Lib.hid (show Below (w.heap.size + 1) _ _ from hb.mono (by simp)); have HB := Lib.hid (BA.out.trans (hb.mono BA.out.size)); obtain ⟨y0, y1, y2, y3⟩ := BX.out _ H1.out; clear hb LA) | (go_at_call 39; refine (HA.out _ HB.out).mono ?_; rintro e w2 ⟨rfl, hb⟩; clear y0 y1 y2 y3; have H2 := Lib.hid (H1.out.trans (hb.mono (by have := H1.out.size; simp at this; omega))); have HB := Lib.hid (HB.out.trans (hb.mono HB.out.size)); obtain ⟨y0, y1, y2, y3⟩ := BX.out _ H2.out; clear hb HA H1))
              go_ret
              exact ⟨by first | rfl | simp_all, HB.out⟩
          · rw [decide_eq_false q2]
            (try simp only [Bool.false_and, Bool.and_false])
            go_enter Tryz.func23, Tryz.ntmps23
            go_wp2_with (first | (go_at_call 39; refine (LA.out _ BA.out).mono ?_; rintro e w1 ⟨rfl, hb⟩; have H1 := Lib.hid (show Below (w.heap.size + 1) _ _ from hb.mono (by simp)); have HB := Lib.hid (BA.out.trans (hb.mono BA.out.size)); obtain ⟨y0, y1, y2, y3⟩ := BX.out _ H1.out; clear hb LA) | (go_at_call 39; refine (HA.out _ HB.out).mono ?_; rintro e w2 ⟨rfl, hb⟩; clear y0 y1 y2 y3; have H2 := Lib.hid (H1.out.trans (hb.mono (by have := H1.out.size; simp at this; omega))); have HB := Lib.hid (HB.out.trans (hb.mono HB.out.size)); obtain ⟨y0, y1, y2, y3⟩ := BX.out _ H2.out; clear hb HA H1))
            go_ret
            exact ⟨by first | rfl | simp_all, HB.out⟩
        · rw [decide_eq_false q1]
          (try simp only [Bool.false_and, Bool.and_false])
          go_enter Tryz.func23, Tryz.ntmps23
          go_wp2_with (first | (go_at_call 39; refine (LA.out _ BA.out).mono ?_; rintro e w1 ⟨rfl, hb⟩; have H1 := Lib.hid (show Below (w.heap.size + 1) _ _ from hb.mono (by simp)); have HB := Lib.hid (BA.out.trans (hb.mono BA.out.size)); obtain ⟨y0, y1, y2, y3⟩ := BX.out _ H1.out; clear hb LA) | (go_at_call 39; refine (HA.out _ HB.out).mono ?_; rintro e w2 ⟨rfl, hb⟩; clear y0 y1 y2 y3; have H2 := Lib.hid (H1.out.trans (hb.mono (by have := H1.out.size; simp at this; omega))); have HB := Lib.hid (HB.out.trans (hb.mono HB.out.size)); obtain ⟨y0, y1, y2, y3⟩ := BX.out _ H2.out; clear hb HA H1))
          go_ret
          exact ⟨by first | rfl | simp_all, HB.out⟩
      · rw [decide_eq_false q0]
        (try simp only [Bool.false_and, Bool.and_false])
        go_enter Tryz.func23, Tryz.ntmps23
        go_wp2_with (first | (go_at_call 39; refine (LA.out _ BA.out).mono ?_; rintro e w1 ⟨rfl, hb⟩; have H1 := Lib.hid (show Below (w.heap.size + 1) _ _ from hb.mono (by simp)); have HB := Lib.hid (BA.out.trans (hb.mono BA.out.size)); obtain ⟨y0, y1, y2, y3⟩ := BX.out _ H1.out; clear hb LA) | (go_at_call 39; refine (HA.out _ HB.out).mono ?_; rintro e w2 ⟨rfl, hb⟩; clear y0 y1 y2 y3; have H2 := Lib.hid (H1.out.trans (hb.mono (by have := H1.out.size; simp at this; omega))); have HB := Lib.hid (HB.out.trans (hb.mono HB.out.size)); obtain ⟨y0, y1, y2, y3⟩ := BX.out _ H2.out; clear hb HA H1))
        go_ret
        exact ⟨by first | rfl | simp_all, HB.out⟩
end Go.Proofs.YtcbjkclajkjicaaGreatDoor
