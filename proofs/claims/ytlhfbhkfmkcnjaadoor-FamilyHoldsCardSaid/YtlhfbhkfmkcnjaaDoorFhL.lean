/-
  Lists of lists as they lie; whether all ascend; parts and equality of lists.
-/
import Derived.Deep.Slices
import Derived.Test.YtlhfbhkfmkcnjaaDoorFhV
import Derived.Test.YtlhfbhkfmkcnjaaDoorFhCCom
import Derived.Test.YtlhfbhkfmkcnjaaDoorFhCWit
namespace Go.Proofs.YtlhfbhkfmkcnjaaDoor
open Go Go.RowKit Go.Ev

/-- a slice of slices of integers that lies in a world -/
def LL (w : World) (A : Option Addr) (ls : List (List Int)) : Prop := ls.length ≤ 1000000 ∧
  (0 < ls.length → ∃ b off, A = some ⟨b, off, none⟩ ∧ b < w.heap.size ∧ ∃ (AF : Nat → Option Addr) (CF : Nat → Nat), (∀ i, AF i = none → CF i = 0) ∧ ∀ i (h : i < ls.length), w.cell? ⟨b, off + i, none⟩ = some (.slice (AF i) ls[i].length (CF i)) ∧ Ints w (AF i) ls[i])
theorem LL.over {w w' : World} {A : Option Addr} {ls : List (List Int)} (h : LL w A ls) (k : Below w.heap.size w w') : LL w' A ls :=
  ⟨h.1, fun hp => by
    obtain ⟨b, off, e, hb, AF, CF, hz, hc⟩ := h.2 hp
    exact ⟨b, off, e, Nat.lt_of_lt_of_le hb k.size, AF, CF, hz, fun i hi => ⟨(k.cell (p := ⟨b, off + i, none⟩) hb).trans (hc i hi).1, (hc i hi).2.over k⟩⟩⟩
theorem ints_of_rowAt {w : World} {A : Option Addr} {xs : List Int} {base : Nat} (hl : xs.length ≤ 1000000) (hr : ∀ x ∈ xs, -9223372036854775808 ≤ x ∧ x ≤ 9223372036854775807) (h : 0 < xs.length → ∃ g, A = some ⟨g, 0, none⟩ ∧ base ≤ g ∧ RowAt w g xs) : Ints w A xs :=
  ⟨hl, hr, fun hp => by
    obtain ⟨g, e, _, hr⟩ := h hp
    exact ⟨g, 0, e, hr.lt hp, fun i hi => by rw [Nat.zero_add]; exact (hr i hi).1⟩⟩
set_option maxRecDepth 100000 in
set_option maxHeartbeats 2000000 in
theorem equal_any (xs ys : List Int) (A B : Option Addr) (c1 c2 : Nat) (w : World) (ha : Ints w A xs) (hb : Ints w B ys) :
    Calls Tryd.prog 72 #[.slice A xs.length c1, .slice B ys.length c2] w fun e w' => e = .returned (.bool (decide (xs = ys))) ∧ Below w.heap.size w w' := by
  have hlx := ha.1
  have hly := hb.1
  have HA := Lib.hid ha.2.2
  have HB := Lib.hid hb.2.2
  clear ha hb
  by_cases hne : xs.length = ys.length
  · obtain ⟨R, hR⟩ : ∃ R, decide (xs = ys) = R := ⟨_, rfl⟩
    rw [hR]
    have HR := Lib.hid hR
    clear hR
    obtain ⟨n, hn⟩ : ∃ n, ys.length = n := ⟨_, rfl⟩
    rw [hn] at hne hly
    simp only [hn, hne]
    have HN := Lib.hid (And.intro hne hn)
    clear hn hne
    go_enter Tryd.func72, Tryd.ntmps72
    go_wp2_with fail
    go_loopw [5, 13] (fun _ i wr => ∃ k : Nat, k ≤ n ∧ i = .int .i64 k ∧ xs.take k = ys.take k ∧ Below w.heap.size w wr) (fun _ i _ => n - (intOf i).toNat)
    case atStart => exact ⟨0, Nat.zero_le _, rfl, rfl, Below.refl _ _⟩
    case round =>
      obtain ⟨k, hk, rfl, ht, hbw⟩ := hrel
      have HT := Lib.hid ht
      have HBW := Lib.hid hbw
      clear ht hbw
      by_cases hlt : k < n
      · have hkx : k < xs.length := by rw [HN.out.1]; exact hlt
        have hky : k < ys.length := by rw [HN.out.2]; exact hlt
        obtain ⟨b1, o1, rfl, hb1', g1⟩ := HA.out (by omega)
        obtain ⟨b2, o2, rfl, hb2', g2⟩ := HB.out (by omega)
        have x1 := (HBW.out.cell (p := ⟨b1, o1 + k, none⟩) hb1').trans (g1 k hkx)
        have x2 := (HBW.out.cell (p := ⟨b2, o2 + k, none⟩) hb2').trans (g2 k hky)
        have T1 := Lib.hid (show xs.take (k + 1) = xs.take k ++ [xs[k]] from List.take_succ_eq_append_getElem hkx)
        have T2 := Lib.hid (show ys.take (k + 1) = ys.take k ++ [ys[k]] from List.take_succ_eq_append_getElem hky)
        have z1 : (k : Int) < (n : Int) := by omega
        have z2 : (0 : Int) ≤ (k : Int) := by omega
        have HE := Lib.hid (show xs[k] ≠ ys[k] → decide (xs = ys) = false from fun h => decide_eq_false fun e => h (by subst e; rfl))
        clear g1 g2 HA HB
        generalize xs[k] = p at *
        generalize ys[k] = q at *
        clear hkx hky
        by_cases hpq : p = q
        · have y1 : (p != q) = false := by simpa using hpq
          have HP := Lib.hid hpq
          clear hpq
          go_wp2_with fail
          go_quiet (fail)
          go_wp2_with fail
          go_roundw
          case rel => exact ⟨k + 1, by omega, by go_num, by rw [T1.out, T2.out, HT.out, HP.out], HBW.out.trans ⟨rfl, rfl, rfl, Nat.le_refl _, fun _ _ => rfl⟩⟩
          case measure => simp [intOf]; omega
        · have y1 : (p != q) = true := by simpa using hpq
          have HP := Lib.hid (show R = false by rw [← HR.out]; exact HE.out hpq)
          clear hpq
          go_wp2_with fail
          go_quiet (fail)
          go_wp2_with fail
          go_ret
          exact ⟨by rw [HP.out]; rfl, HBW.out.trans ⟨rfl, rfl, rfl, Nat.le_refl _, fun _ _ => rfl⟩⟩
      · obtain rfl : k = n := by omega
        have HP := Lib.hid (show R = true by
          have h := HT.out
          rw [List.take_of_length_le (by rw [HN.out.1]; exact Nat.le_refl _), List.take_of_length_le (by rw [HN.out.2]; exact Nat.le_refl _)] at h
          rw [← HR.out]; exact decide_eq_true h)
        clear HA HB
        go_wp2_with fail
        go_ret
        exact ⟨by rw [HP.out]; rfl, HBW.out⟩
  · have e : decide (xs = ys) = false := decide_eq_false fun h => hne (by rw [h])
    rw [e]
    have hb1 : ((xs.length : Int) != (ys.length : Int)) = true := by simp; omega
    clear HA HB e
    generalize xs.length = n1 at *
    generalize ys.length = n2 at *
    go_enter Tryd.func72, Tryd.ntmps72
    go_wp2_with fail
    go_ret
    exact ⟨rfl, Below.refl _ _⟩
theorem filter_len {xs : List Int} {p : Int → Bool} : (((xs.filter p).length : Int) == 0) = xs.all fun x => !p x := by
  rw [Bool.eq_iff_iff, beq_iff_eq, List.all_eq_true]
  constructor
  · intro h x hx
    have h0 : xs.filter p = [] := List.eq_nil_of_length_eq_zero (by omega)
    have := List.filter_eq_nil_iff.1 h0 x hx
    simpa using this
  · intro h
    rw [show xs.filter p = [] from List.filter_eq_nil_iff.2 fun x hx => by have := h x hx; simpa using this]
    rfl
theorem isPart_any (xs ys : List Int) (A B : Option Addr) (c1 c2 : Nat) (w : World) (ha : Ints w A xs) (hb : Ints w B ys) (hs : ascB ys = true) :
    Calls Tryd.prog 83 #[.slice A xs.length c1, .slice B ys.length c2] w fun e w' => e = .returned (.bool (xs.all fun x => ys.contains x)) ∧ Below w.heap.size w w' := by
  have WO := Lib.hid (without_any xs ys A B c1 c2 w ha hb hs)
  have FL := Lib.hid (filter_len (xs := xs) (p := fun x => !strWit ys x))
  have hll : (xs.filter fun x => !strWit ys x).length ≤ 1000000 := Nat.le_trans (List.length_filter_le _ _) ha.1
  have ER := Lib.hid (show (xs.all fun x => ys.contains x) = xs.all fun x => !!strWit ys x by simp [strWit])
  clear ha hb hs
  generalize (xs.filter fun x => !strWit ys x) = ks at *
  go_enter Tryd.func83, Tryd.ntmps83
  go_wp2_with (go_at_call 85; refine WO.out.mono ?_; rintro e w1 ⟨A1, k1, rfl, _, hb⟩; have HB := Lib.hid hb; clear hb)
  go_ret
  exact ⟨by rw [ER.out, ← FL.out]; rfl, HB.out⟩
theorem holds1_any (xs : List Int) (A : Option Addr) (c : Nat) (w : World) (ha : Ints w A xs) :
    Calls Tryd.prog 81 #[.slice A xs.length c] w fun e w' => e = .returned (.bool (!ascB xs)) ∧ Below w.heap.size w w' := by
  have C := Lib.hid (ascends_any xs A c w ha)
  clear ha
  generalize ascB xs = R at *
  generalize xs.length = m at *
  go_enter Tryd.func81, Tryd.ntmps81
  go_wp2_with (go_at_call 82; refine C.out.mono ?_; rintro e w1 ⟨rfl, h⟩; have HB := Lib.hid h; clear h)
  go_ret
  exact ⟨rfl, HB.out⟩
set_option maxHeartbeats 1000000 in
theorem indexAsc_any (ls : List (List Int)) (A : Option Addr) (c1 : Nat) (w : World) (ha : LL w A ls) :
    Calls Tryd.prog 111 #[.slice A ls.length c1, .func (.func 81) #[] #[]] w fun e w' => ∃ r : Int, e = .returned (.int .i64 r) ∧ decide (0 ≤ r) = (ls.any fun l => !ascB l) ∧ Below w.heap.size w w' := by
  have hlx := ha.1
  have HA := Lib.hid ha.2
  go_enter Tryd.func111, Tryd.ntmps111
  go_wp2_with fail
  go_loopw [5, 8] (fun _ i wr => ∃ k : Nat, k ≤ ls.length ∧ i = .int .i64 k ∧ (∀ j (hj : j < k) (hl : j < ls.length), ascB ls[j] = true) ∧ Below w.heap.size w wr) (fun _ i _ => ls.length - (intOf i).toNat)
  case atStart => exact ⟨0, Nat.zero_le _, rfl, fun j hj => absurd hj (Nat.not_lt_zero _), Below.refl _ _⟩
  case round =>
    obtain ⟨k, hk, rfl, hall, hbw⟩ := hrel
    have HL := Lib.hid hall
    have HBW := Lib.hid hbw
    clear hall hbw
    by_cases hlt : k < ls.length
    · obtain ⟨b1, o1, rfl, hb1', AF, CF, _, g1⟩ := HA.out (by omega)
      have x1 := (HBW.out.cell (p := ⟨b1, o1 + k, none⟩) hb1').trans (g1 k hlt).1
      have C2 := Lib.hid (holds1_any ls[k] (AF k) (CF k) wr ((g1 k hlt).2.over HBW.out))
      have z1 : (k : Int) < (ls.length : Int) := by omega
      have z2 : (0 : Int) ≤ (k : Int) := by omega
      generalize hx : ls[k] = x at *
      have HX := Lib.hid hx
      clear g1 HA hx
      cases hp : ascB x with
      | true =>
        rw [hp] at C2
        generalize x.length = lx at *
        go_wp2_with (go_at_call 81; refine C2.out.mono ?_; rintro e w1 ⟨rfl, hb⟩; have HB := Lib.hid (HBW.out.trans (hb.mono HBW.out.size)); clear hb)
        go_roundw
        case rel =>
          refine ⟨k + 1, by omega, by go_num, fun j hj hl => ?_, HB.out⟩
          rcases Nat.lt_or_ge j k with h | h
          · exact HL.out j h hl
          · obtain rfl : j = k := by omega
            rw [HX.out]; exact hp
        case measure => simp [intOf]; omega
      | false =>
        rw [hp] at C2
        generalize x.length = lx at *
        go_wp2_with (go_at_call 81; refine C2.out.mono ?_; rintro e w1 ⟨rfl, hb⟩; have HB := Lib.hid (HBW.out.trans (hb.mono HBW.out.size)); clear hb)
        go_ret
        refine ⟨_, rfl, ?_, HB.out⟩
        rw [decide_eq_true (by omega)]
        symm
        rw [List.any_eq_true]
        exact ⟨x, by rw [← HX.out]; exact List.getElem_mem _, by rw [hp]; rfl⟩
    · obtain rfl : k = ls.length := by omega
      clear HA
      go_wp2_with fail
      go_ret
      refine ⟨_, rfl, ?_, HBW.out⟩
      rw [decide_eq_false (by omega)]
      symm
      rw [List.any_eq_false]
      intro x hx
      obtain ⟨j, hj, rfl⟩ := List.getElem_of_mem hx
      rw [HL.out j hj hj]; simp
theorem anyAsc_any (ls : List (List Int)) (A : Option Addr) (c1 : Nat) (w : World) (ha : LL w A ls) :
    Calls Tryd.prog 80 #[.slice A ls.length c1, .func (.func 81) #[] #[]] w fun e w' => e = .returned (.bool (ls.any fun l => !ascB l)) ∧ Below w.heap.size w w' := by
  have C := Lib.hid (indexAsc_any ls A c1 w ha)
  generalize (ls.any fun l => !ascB l) = R at *
  go_enter Tryd.func80, Tryd.ntmps80
  go_wp2_with (go_at_call 111; refine C.out.mono ?_; rintro e w1 ⟨r, rfl, hr, hb⟩; have HB := Lib.hid hb; clear hb)
  go_ret
  exact ⟨by rw [← hr]; rfl, HB.out⟩
end Go.Proofs.YtlhfbhkfmkcnjaaDoor
