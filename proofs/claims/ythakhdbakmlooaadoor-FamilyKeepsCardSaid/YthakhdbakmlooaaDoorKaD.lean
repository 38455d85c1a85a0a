/-
  A list without those that are struck: common's way.
-/
import Derived.Test.YthakhdbakmlooaaDoorKaA
import Derived.Lib.SliceRun
import Derived.Test.YthakhdbakmlooaaDoorKaC
import Derived.Deep.Slices
import Derived.Test.YthakhdbakmlooaaDoorKaB
namespace Go.Proofs.YthakhdbakmlooaaDoor
open Go Go.RowKit Go.Ev

theorem closCom_any (x : Int) (ys : List Int) (nb : Nat) (B : Option Addr) (c : Nat) (w : World) (hf : w.cell? ⟨nb, 0, none⟩ = some (.slice B ys.length c)) (hb : Ints w B ys) (hs : ascB ys = true) :
    Calls Tryd.prog 74 #[.int .i64 x, .pointer (some ⟨nb, 0, none⟩)] w fun e w' => e = .returned (.bool (!ys.contains x)) ∧ Below w.heap.size w w' := by
  have C := Lib.hid (contains_any ys x B c w hb hs)
  clear hb hs
  generalize ys.contains x = R at *
  generalize ys.length = m at *
  go_enter Tryd.func74, Tryd.ntmps74
  go_wp2_with (go_at_call 57; refine C.out.mono ?_; rintro e w1 ⟨rfl, h⟩; have HB := Lib.hid h; clear h)
  go_ret
  exact ⟨rfl, HB.out⟩
/-- what is struck -/
def strCom (ys : List Int) (x : Int) : Bool := !ys.contains x
set_option maxRecDepth 100000 in
set_option maxHeartbeats 2000000 in
theorem indexCom_any (xs ys : List Int) (A : Option Addr) (c nb : Nat) (base : Nat) (w : World) (hl : xs.length ≤ 1000000)
    (hx : 0 < xs.length → ∃ g, A = some ⟨g, 0, none⟩ ∧ base ≤ g ∧ RowAt w g xs)
    (hp : ∀ x w1, Below base w w1 → Calls Tryd.prog 74 #[.int .i64 x, .pointer (some ⟨nb, 0, none⟩)] w1 fun e w' => e = .returned (.bool (strCom ys x)) ∧ Below w1.heap.size w1 w') (hbs : base ≤ w.heap.size) :
    Calls Tryd.prog 86 #[.slice A xs.length c, .func (.func 74) #[] #[.pointer (some ⟨nb, 0, none⟩)]] w fun e w' => ∃ r : Int, e = .returned (.int .i64 r) ∧
      ((r = -1 ∧ ∀ x ∈ xs, strCom ys x = false) ∨ (∃ k, ∃ h : k < xs.length, r = (k : Int) ∧ strCom ys xs[k] = true ∧ ∀ j (hj : j < k), strCom ys xs[j] = false)) ∧ Below w.heap.size w w' := by
  have HA := Lib.hid hx
  have C := Lib.hid hp
  clear hx hp
  go_enter Tryd.func86, Tryd.ntmps86
  go_wp2_with fail
  go_loopw [5, 8] (fun _ i wr => ∃ k : Nat, k ≤ xs.length ∧ i = .int .i64 k ∧ (∀ j (hj : j < k) (hl : j < xs.length), strCom ys xs[j] = false) ∧ Below w.heap.size w wr) (fun _ i _ => xs.length - (intOf i).toNat)
  case atStart => exact ⟨0, Nat.zero_le _, rfl, fun j hj => absurd hj (Nat.not_lt_zero _), Below.refl _ _⟩
  case round =>
    obtain ⟨k, hk, rfl, hall, hbw⟩ := hrel
    have HL := Lib.hid hall
    have HBW := Lib.hid hbw
    clear hall hbw
    by_cases hlt : k < xs.length
    · obtain ⟨g, rfl, hg, hr⟩ := HA.out (by omega)
      have x1 := (HBW.out.cell (p := ⟨g, k, none⟩) (hr.lt hlt)).trans (hr k hlt).1
      have C2 := Lib.hid (C.out xs[k] wr (HBW.out.mono hbs))
      have z1 : (k : Int) < (xs.length : Int) := by omega
      have z2 : (0 : Int) ≤ (k : Int) := by omega
      generalize hxx : xs[k] = x at *
      have HX := Lib.hid hxx
      clear hr HA C hxx
      cases hpx : strCom ys x with
      | false =>
        rw [hpx] at C2
        go_wp2_with (go_at_call 74; refine C2.out.mono ?_; rintro e w1 ⟨rfl, hb⟩; have HB := Lib.hid (HBW.out.trans (hb.mono HBW.out.size)); clear hb)
        go_roundw
        case rel =>
          refine ⟨k + 1, by omega, by go_num, fun j hj hl => ?_, HB.out⟩
          rcases Nat.lt_or_ge j k with h | h
          · exact HL.out j h hl
          · obtain rfl : j = k := by omega
            rw [HX.out]; exact hpx
        case measure => simp [intOf]; omega
      | true =>
        rw [hpx] at C2
        go_wp2_with (go_at_call 74; refine C2.out.mono ?_; rintro e w1 ⟨rfl, hb⟩; have HB := Lib.hid (HBW.out.trans (hb.mono HBW.out.size)); clear hb)
        go_ret
        exact ⟨_, rfl, .inr ⟨k, hlt, rfl, by rw [HX.out]; exact hpx, fun j hj => HL.out j hj (by omega)⟩, HB.out⟩
    · obtain rfl : k = xs.length := by omega
      clear HA C
      go_wp2_with fail
      go_ret
      refine ⟨_, rfl, .inl ⟨rfl, fun x hx => ?_⟩, HBW.out⟩
      obtain ⟨j, hj, rfl⟩ := List.getElem_of_mem hx
      exact HL.out j hj hj
set_option maxRecDepth 100000 in
set_option maxHeartbeats 4000000 in
theorem deleteCom_any (xs ys : List Int) (A : Option Addr) (c nb : Nat) (base : Nat) (w : World) (hl : xs.length ≤ 1000000) (hlc : xs.length ≤ c)
    (hx : 0 < xs.length → ∃ g, A = some ⟨g, 0, none⟩ ∧ base ≤ g ∧ RowAt w g xs)
    (hp : ∀ x w1, Below base w w1 → Calls Tryd.prog 74 #[.int .i64 x, .pointer (some ⟨nb, 0, none⟩)] w1 fun e w' => e = .returned (.bool (strCom ys x)) ∧ Below w1.heap.size w1 w') (hbs : base ≤ w.heap.size) :
    Calls Tryd.prog 72 #[.slice A xs.length c, .func (.func 74) #[] #[.pointer (some ⟨nb, 0, none⟩)]] w (KeptOk (xs.filter fun x => !strCom ys x) base w) := by
  have IX := Lib.hid (indexCom_any xs ys A c nb base w hl hx hp hbs)
  have HA := Lib.hid hx
  have C := Lib.hid hp
  have zI : ∀ w, (zeroValue 3).run Tryd.prog w = .ok (.int .i64 0) w := fun w => by
    obtain ⟨i0, hi, hz0, _, _⟩ := info_parts infoI
    simp [zeroValue, typeInfo, hi, hz0]
  clear hx hp
  go_enter Tryd.func72, Tryd.ntmps72
  go_wp2_with fail
  refine IX.out.mono ?_
  rintro e w1 ⟨r, rfl, hr, hb⟩
  have HB := Lib.hid hb
  clear hb IX
  rcases hr with ⟨rfl, hall⟩ | ⟨k0, hk0, rfl, hp0, hj0⟩
  · have e : (xs.filter fun x => !strCom ys x) = xs := List.filter_eq_self.2 fun x hx => by rw [hall x hx]; rfl
    have HE := Lib.hid e
    clear e
    go_wp2_with fail
    rw [HE.out]
    go_ret
    exact ⟨A, c, rfl, fun h0 => by obtain ⟨g, ea, hg, hr⟩ := HA.out h0; exact ⟨g, ea, hg, hr.below HB.out (hr.lt h0)⟩, HB.out.mono hbs⟩
  · have hne : ((k0 : Int) == -1) = false := by simp
    obtain ⟨g, rfl, hg, hro⟩ := HA.out (by omega)
    have hgw := hro.lt hk0
    have R0 := Lib.hid (hro.below HB.out hgw)
    have F0 := Lib.hid (show xs.take k0 = (xs.take (k0 + 1)).filter fun x => !strCom ys x by
      rw [List.take_succ_eq_append_getElem hk0, List.filter_append, List.filter_eq_self.2 (fun x hx => by
        obtain ⟨j, hj, rfl⟩ := List.getElem_of_mem hx
        rw [List.getElem_take]
        rw [hj0 j (by simp at hj; omega)]; rfl)]
      simp [hp0])
    obtain ⟨n, hn⟩ : ∃ n, xs.length = n := ⟨_, rfl⟩
    have HN := Lib.hid hn
    have BB := Lib.hid (HB.out.mono hbs)
    clear hro hp0 hj0 HA HB
    rw [hn] at hl hlc hk0
    simp only [hn]
    go_wp2_with fail
    go_loopw [5, 6, 7] (fun i j _ wr => ∃ (p q : Nat) (L : List Int), p < q ∧ q ≤ n ∧ i = .int .i64 p ∧ j = .int .i64 q ∧ L.length = n ∧ L.take p = ((xs.take q).filter fun x => !strCom ys x) ∧ (∀ t (h1 : t < L.length) (h2 : t < xs.length), q ≤ t → L[t] = xs[t]) ∧ RowAt wr g L ∧ Below base w wr) (fun _ j _ _ => n - (intOf j).toNat)
    case atStart => exact ⟨k0, k0 + 1, xs, by omega, by omega, rfl, by go_num, HN.out, F0.out, fun _ _ _ _ => rfl, R0.out, BB.out⟩
    case round =>
      obtain ⟨p, q, L, hpq, hq, rfl, rfl, hL, ht, hd, hr, hb⟩ := hrel
      by_cases hlt : q < n
      · have hql : q < L.length := by omega
        have hqx : q < xs.length := by omega
        have hpl : p < L.length := by omega
        have x0 := (hr q hql).1
        have f0 := (hr p hpl).2
        have x9 := (hr p hpl).1
        rw [hd q hql hqx (Nat.le_refl _)] at x0
        have TK := Lib.hid (show xs.take (q + 1) = xs.take q ++ [xs[q]] from List.take_succ_eq_append_getElem hqx)
        have C2 := Lib.hid (C.out xs[q] wr hb)
        have HD := Lib.hid (hd q hql hqx (Nat.le_refl _))
        have gwr : g < wr.heap.size := hr.lt hql
        have HH := Lib.hid (And.intro hL (And.intro ht (And.intro hd (And.intro hr hb))))
        have z1 : (q : Int) < (n : Int) := by omega
        have z2 : (0 : Int) ≤ (q : Int) := by omega
        have z3 : (p : Int) < (n : Int) := by omega
        have z4 : (0 : Int) ≤ (p : Int) := by omega
        generalize xs[q] = x at *
        generalize L[p] = lp at x9
        clear hL ht hd hr hb C HD hql hqx
        cases hpx : strCom ys x with
        | true =>
          rw [hpx] at C2
          have HP := Lib.hid hpx
          clear hpx
          go_wp2_with (go_at_call 74; refine C2.out.mono ?_; rintro e w2 ⟨rfl, hb⟩; have HB := Lib.hid hb; clear hb)
          go_roundw
          case rel =>
            obtain ⟨hL, ht, hd, hr, hb⟩ := HH.out
            exact ⟨p, q + 1, L, by omega, by omega, rfl, by go_num, hL, by rw [ht, TK.out, List.filter_append]; simp [HP.out], fun t a b h => hd t a b (by omega), hr.below HB.out gwr, hb.trans (HB.out.mono hb.size |>.mono (by have := hb.size; omega))⟩
          case measure => simp [intOf]; omega
        | false =>
          rw [hpx] at C2
          have HP := Lib.hid hpx
          clear hpx
          go_wp2_with (go_at_call 74; refine C2.out.mono ?_; rintro e w2 ⟨rfl, hb⟩; have HB := Lib.hid hb; have y0 := (hb.cell (p := ⟨g, p, none⟩) gwr).trans x9; have y1 := (hb.frozen (p := ⟨g, p, none⟩) gwr).trans f0; clear hb)
          go_roundw
          case rel =>
            obtain ⟨hL, ht, hd, hr, hb⟩ := HH.out
            refine ⟨p + 1, q + 1, L.set p x, by omega, by omega, by go_num, by go_num, by rw [List.length_set]; exact hL, by rw [set_take hpl, ht, TK.out, List.filter_append]; simp [HP.out], fun t a b h => ?_, (hr.below HB.out gwr).set hpl x, (hb.trans (HB.out.mono (by have := hb.size; omega))).setCell (p := ⟨g, p, none⟩) hg _⟩
            rw [List.getElem_set_ne (by omega)]
            exact hd t (by simpa using a) b (by omega)
          case measure => simp [intOf]; omega
      · obtain rfl : q = n := by omega
        have hqn := HN.out
        rw [show xs.take q = xs from List.take_of_length_le (by omega)] at ht
        have hplt : p < L.length := by omega
        have hcl := fun ty => Lib.run_clear_slice (P := Tryd.prog) wr 22 3 ty (.int .i64 0) Tryd.underlying22 zI rfl rfl g p (q - p) (c - p) (by omega) (fun j hj => by rw [(hr (p + j) (by omega)).1]; rfl) (fun j hj => (hr (p + j) (by omega)).2)
        have HH := Lib.hid (And.intro hL (And.intro ht (And.intro hr hb)))
        have z1 : (p : Int) ≤ (q : Int) := by omega
        have z2 : (0 : Int) ≤ (p : Int) := by omega
        have z3 : (p : Int) ≤ (c : Int) := by omega
        have z4 : ¬ (q : Int) < (q : Int) := by omega
        clear hL ht hd hr hb C hqn
        go_wp2_with fail
        obtain ⟨hL, ht, hr, hb⟩ := HH.out
        have hpe : p = (xs.filter fun x => !strCom ys x).length := by rw [← ht, List.length_take]; omega
        go_ret
        refine ⟨some ⟨g, 0, none⟩, c, ?_, fun _ => ⟨g, rfl, hg, ?_⟩, below_cells hg _ _ _ hb⟩
        · rw [← hpe]; rfl
        · rw [← ht]; exact hr.cleared p _
theorem common_any (xs ys : List Int) (A B : Option Addr) (c1 c2 : Nat) (w : World) (ha : Ints w A xs) (hb : Ints w B ys) (hs : ascB ys = true) :
    Calls Tryd.prog 55 #[.slice A xs.length c1, .slice B ys.length c2] w (KeptOk (xs.filter fun x => !strCom ys x) w.heap.size w) := by
  have CL := Lib.hid (clone_any xs A c1 (w.alloc (.cells #[.slice B ys.length c2] 22)) (ha.over ((Below.refl _ w).alloc (Nat.le_refl _) _)))
  have hl := ha.1
  have B0 : Below w.heap.size w (w.alloc (.cells #[.slice B ys.length c2] 22)) := (Below.refl _ w).alloc (Nat.le_refl _) _
  have DL := Lib.hid (fun (A : Option Addr) (c : Nat) (w1 : World) (hc : xs.length ≤ c) (hk : Below (w.heap.size + 1) (w.alloc (.cells #[.slice B ys.length c2] 22)) w1) (hx : 0 < xs.length → ∃ g, A = some ⟨g, 0, none⟩ ∧ w.heap.size + 1 ≤ g ∧ RowAt w1 g xs) =>
    deleteCom_any xs ys A c w.heap.size (w.heap.size + 1) w1 hl hc hx (fun x w2 hk2 => closCom_any x ys w.heap.size B c2 w2 (by
        have c0 : (w.alloc (.cells #[.slice B ys.length c2] 22)).cell? ⟨w.heap.size, 0, none⟩ = some (.slice B ys.length c2) := by simp [go_sem]
        exact ((hk.trans hk2).cell (p := ⟨w.heap.size, 0, none⟩) (Nat.lt_succ_self _)).trans c0) (hb.over (B0.trans ((hk.trans hk2).mono (Nat.le_succ _)))) hs) (by have := hk.size; simp at this; omega))
  clear ha hb hs
  generalize hK : (xs.filter fun x => !strCom ys x) = ks at *
  clear hK
  go_enter Tryd.func55, Tryd.ntmps55
  go_wp2_with fail
  refine CL.out.mono ?_
  rintro e w1 ⟨A1, k1, rfl, hk1, hx, hb1⟩
  rw [World.size_alloc] at hb1 hx
  have B1 := Lib.hid (B0.trans (hb1.mono (Nat.le_succ _)))
  have DX := Lib.hid ((DL.out A1 k1 w1 hk1 hb1 hx).mono fun e w' h => h.shape)
  clear CL DL hb1 hx
  generalize hKO : KeptOk ks (w.heap.size + 1) w1 = Q at *
  go_wp2_with (go_at_call 72; refine DX.out.mono ?_; rintro e w2 ⟨A2, k2, rfl, hq⟩; have HQ := Lib.hid hq; clear hq)
  go_ret
  have hq := HQ.out
  rw [← hKO] at hq
  obtain ⟨A3, k3, e3, h3, b3⟩ := hq
  injection e3 with e3
  injection e3 with ea el ec
  subst ea ec
  exact ⟨A2, k2, rfl, fun h0 => by obtain ⟨g, q1, q2, q3⟩ := h3 h0; exact ⟨g, q1, by omega, q3⟩, B1.out.trans (b3.mono (Nat.le_succ _))⟩
end Go.Proofs.YthakhdbakmlooaaDoor

/-
  A list without those that are struck: without's way.
-/
namespace Go.Proofs.YthakhdbakmlooaaDoor
open Go Go.RowKit Go.Ev

theorem closWit_any (x : Int) (ys : List Int) (nb : Nat) (B : Option Addr) (c : Nat) (w : World) (hf : w.cell? ⟨nb, 0, none⟩ = some (.slice B ys.length c)) (hb : Ints w B ys) (hs : ascB ys = true) :
    Calls Tryd.prog 75 #[.int .i64 x, .pointer (some ⟨nb, 0, none⟩)] w fun e w' => e = .returned (.bool (ys.contains x)) ∧ Below w.heap.size w w' := by
  have C := Lib.hid (contains_any ys x B c w hb hs)
  clear hb hs
  generalize ys.contains x = R at *
  generalize ys.length = m at *
  go_enter Tryd.func75, Tryd.ntmps75
  go_wp2_with (go_at_call 57; refine C.out.mono ?_; rintro e w1 ⟨rfl, h⟩; have HB := Lib.hid h; clear h)
  go_ret
  exact ⟨rfl, HB.out⟩
/-- what is struck -/
def strWit (ys : List Int) (x : Int) : Bool := ys.contains x
set_option maxRecDepth 100000 in
set_option maxHeartbeats 2000000 in
theorem indexWit_any (xs ys : List Int) (A : Option Addr) (c nb : Nat) (base : Nat) (w : World) (hl : xs.length ≤ 1000000)
    (hx : 0 < xs.length → ∃ g, A = some ⟨g, 0, none⟩ ∧ base ≤ g ∧ RowAt w g xs)
    (hp : ∀ x w1, Below base w w1 → Calls Tryd.prog 75 #[.int .i64 x, .pointer (some ⟨nb, 0, none⟩)] w1 fun e w' => e = .returned (.bool (strWit ys x)) ∧ Below w1.heap.size w1 w') (hbs : base ≤ w.heap.size) :
    Calls Tryd.prog 86 #[.slice A xs.length c, .func (.func 75) #[] #[.pointer (some ⟨nb, 0, none⟩)]] w fun e w' => ∃ r : Int, e = .returned (.int .i64 r) ∧
      ((r = -1 ∧ ∀ x ∈ xs, strWit ys x = false) ∨ (∃ k, ∃ h : k < xs.length, r = (k : Int) ∧ strWit ys xs[k] = true ∧ ∀ j (hj : j < k), strWit ys xs[j] = false)) ∧ Below w.heap.size w w' := by
  have HA := Lib.hid hx
  have C := Lib.hid hp
  clear hx hp
  go_enter Tryd.func86, Tryd.ntmps86
  go_wp2_with fail
  go_loopw [5, 8] (fun _ i wr => ∃ k : Nat, k ≤ xs.length ∧ i = .int .i64 k ∧ (∀ j (hj : j < k) (hl : j < xs.length), strWit ys xs[j] = false) ∧ Below w.heap.size w wr) (fun _ i _ => xs.length - (intOf i).toNat)
  case atStart => exact ⟨0, Nat.zero_le _, rfl, fun j hj => absurd hj (Nat.not_lt_zero _), Below.refl _ _⟩
  case round =>
    obtain ⟨k, hk, rfl, hall, hbw⟩ := hrel
    have HL := Lib.hid hall
    have HBW := Lib.hid hbw
    clear hall hbw
    by_cases hlt : k < xs.length
    · obtain ⟨g, rfl, hg, hr⟩ := HA.out (by omega)
      have x1 := (HBW.out.cell (p := ⟨g, k, none⟩) (hr.lt hlt)).trans (hr k hlt).1
      have C2 := Lib.hid (C.out xs[k] wr (HBW.out.mono hbs))
      have z1 : (k : Int) < (xs.length : Int) := by omega
      have z2 : (0 : Int) ≤ (k : Int) := by omega
      generalize hxx : xs[k] = x at *
      have HX := Lib.hid hxx
      clear hr HA C hxx
      cases hpx : strWit ys x with
      | false =>
        rw [hpx] at C2
        go_wp2_with (go_at_call 75; refine C2.out.mono ?_; rintro e w1 ⟨rfl, hb⟩; have HB := Lib.hid (HBW.out.trans (hb.mono HBW.out.size)); clear hb)
        go_roundw
        case rel =>
          refine ⟨k + 1, by omega, by go_num, fun j hj hl => ?_, HB.out⟩
          rcases Nat.lt_or_ge j k with h | h
          · exact HL.out j h hl
          · obtain rfl : j = k := by omega
            rw [HX.out]; exact hpx
        case measure => simp [intOf]; omega
      | true =>
        rw [hpx] at C2
        go_wp2_with (go_at_call 75; refine C2.out.mono ?_; rintro e w1 ⟨rfl, hb⟩; have HB := Lib.hid (HBW.out.trans (hb.mono HBW.out.size)); clear hb)
        go_ret
        exact ⟨_, rfl, .inr ⟨k, hlt, rfl, by rw [HX.out]; exact hpx, fun j hj => HL.out j hj (by omega)⟩, HB.out⟩
    · obtain rfl : k = xs.length := by omega
      clear HA C
      go_wp2_with fail
      go_ret
      refine ⟨_, rfl, .inl ⟨rfl, fun x hx => ?_⟩, HBW.out⟩
      obtain ⟨j, hj, rfl⟩ := List.getElem_of_mem hx
      exact HL.out j hj hj
set_option maxRecDepth 100000 in
set_option maxHeartbeats 4000000 in
theorem deleteWit_any (xs ys : List Int) (A : Option Addr) (c nb : Nat) (base : Nat) (w : World) (hl : xs.length ≤ 1000000) (hlc : xs.length ≤ c)
    (hx : 0 < xs.length → ∃ g, A = some ⟨g, 0, none⟩ ∧ base ≤ g ∧ RowAt w g xs)
    (hp : ∀ x w1, Below base w w1 → Calls Tryd.prog 75 #[.int .i64 x, .pointer (some ⟨nb, 0, none⟩)] w1 fun e w' => e = .returned (.bool (strWit ys x)) ∧ Below w1.heap.size w1 w') (hbs : base ≤ w.heap.size) :
    Calls Tryd.prog 72 #[.slice A xs.length c, .func (.func 75) #[] #[.pointer (some ⟨nb, 0, none⟩)]] w (KeptOk (xs.filter fun x => !strWit ys x) base w) := by
  have IX := Lib.hid (indexWit_any xs ys A c nb base w hl hx hp hbs)
  have HA := Lib.hid hx
  have C := Lib.hid hp
  have zI : ∀ w, (zeroValue 3).run Tryd.prog w = .ok (.int .i64 0) w := fun w => by
    obtain ⟨i0, hi, hz0, _, _⟩ := info_parts infoI
    simp [zeroValue, typeInfo, hi, hz0]
  clear hx hp
  go_enter Tryd.func72, Tryd.ntmps72
  go_wp2_with fail
  refine IX.out.mono ?_
  rintro e w1 ⟨r, rfl, hr, hb⟩
  have HB := Lib.hid hb
  clear hb IX
  rcases hr with ⟨rfl, hall⟩ | ⟨k0, hk0, rfl, hp0, hj0⟩
  · have e : (xs.filter fun x => !strWit ys x) = xs := List.filter_eq_self.2 fun x hx => by rw [hall x hx]; rfl
    have HE := Lib.hid e
    clear e
    go_wp2_with fail
    rw [HE.out]
    go_ret
    exact ⟨A, c, rfl, fun h0 => by obtain ⟨g, ea, hg, hr⟩ := HA.out h0; exact ⟨g, ea, hg, hr.below HB.out (hr.lt h0)⟩, HB.out.mono hbs⟩
  · have hne : ((k0 : Int) == -1) = false := by simp
    obtain ⟨g, rfl, hg, hro⟩ := HA.out (by omega)
    have hgw := hro.lt hk0
    have R0 := Lib.hid (hro.below HB.out hgw)
    have F0 := Lib.hid (show xs.take k0 = (xs.take (k0 + 1)).filter fun x => !strWit ys x by
      rw [List.take_succ_eq_append_getElem hk0, List.filter_append, List.filter_eq_self.2 (fun x hx => by
        obtain ⟨j, hj, rfl⟩ := List.getElem_of_mem hx
        rw [List.getElem_take]
        rw [hj0 j (by simp at hj; omega)]; rfl)]
      simp [hp0])
    obtain ⟨n, hn⟩ : ∃ n, xs.length = n := ⟨_, rfl⟩
    have HN := Lib.hid hn
    have BB := Lib.hid (HB.out.mono hbs)
    clear hro hp0 hj0 HA HB
    rw [hn] at hl hlc hk0
    simp only [hn]
    go_wp2_with fail
    go_loopw [5, 6, 7] (fun i j _ wr => ∃ (p q : Nat) (L : List Int), p < q ∧ q ≤ n ∧ i = .int .i64 p ∧ j = .int .i64 q ∧ L.length = n ∧ L.take p = ((xs.take q).filter fun x => !strWit ys x) ∧ (∀ t (h1 : t < L.length) (h2 : t < xs.length), q ≤ t → L[t] = xs[t]) ∧ RowAt wr g L ∧ Below base w wr) (fun _ j _ _ => n - (intOf j).toNat)
    case atStart => exact ⟨k0, k0 + 1, xs, by omega, by omega, rfl, by go_num, HN.out, F0.out, fun _ _ _ _ => rfl, R0.out, BB.out⟩
    case round =>
      obtain ⟨p, q, L, hpq, hq, rfl, rfl, hL, ht, hd, hr, hb⟩ := hrel
      by_cases hlt : q < n
      · have hql : q < L.length := by omega
        have hqx : q < xs.length := by omega
        have hpl : p < L.length := by omega
        have x0 := (hr q hql).1
        have f0 := (hr p hpl).2
        have x9 := (hr p hpl).1
        rw [hd q hql hqx (Nat.le_refl _)] at x0
        have TK := Lib.hid (show xs.take (q + 1) = xs.take q ++ [xs[q]] from List.take_succ_eq_append_getElem hqx)
        have C2 := Lib.hid (C.out xs[q] wr hb)
        have HD := Lib.hid (hd q hql hqx (Nat.le_refl _))
        have gwr : g < wr.heap.size := hr.lt hql
        have HH := Lib.hid (And.intro hL (And.intro ht (And.intro hd (And.intro hr hb))))
        have z1 : (q : Int) < (n : Int) := by omega
        have z2 : (0 : Int) ≤ (q : Int) := by omega
        have z3 : (p : Int) < (n : Int) := by omega
        have z4 : (0 : Int) ≤ (p : Int) := by omega
        generalize xs[q] = x at *
        generalize L[p] = lp at x9
        clear hL ht hd hr hb C HD hql hqx
        cases hpx : strWit ys x with
        | true =>
          rw [hpx] at C2
          have HP := Lib.hid hpx
          clear hpx
          go_wp2_with (go_at_call 75; refine C2.out.mono ?_; rintro e w2 ⟨rfl, hb⟩; have HB := Lib.hid hb; clear hb)
          go_roundw
          case rel =>
            obtain ⟨hL, ht, hd, hr, hb⟩ := HH.out
            exact ⟨p, q + 1, L, by omega, by omega, rfl, by go_num, hL, by rw [ht, TK.out, List.filter_append]; simp [HP.out], fun t a b h => hd t a b (by omega), hr.below HB.out gwr, hb.trans (HB.out.mono hb.size |>.mono (by have := hb.size; omega))⟩
          case measure => simp [intOf]; omega
        | false =>
          rw [hpx] at C2
          have HP := Lib.hid hpx
          clear hpx
          go_wp2_with (go_at_call 75; refine C2.out.mono ?_; rintro e w2 ⟨rfl, hb⟩; have HB := Lib.hid hb; have y0 := (hb.cell (p := ⟨g, p, none⟩) gwr).trans x9; have y1 := (hb.frozen (p := ⟨g, p, none⟩) gwr).trans f0; clear hb)
          go_roundw
          case rel =>
            obtain ⟨hL, ht, hd, hr, hb⟩ := HH.out
            refine ⟨p + 1, q + 1, L.set p x, by omega, by omega, by go_num, by go_num, by rw [List.length_set]; exact hL, by rw [set_take hpl, ht, TK.out, List.filter_append]; simp [HP.out], fun t a b h => ?_, (hr.below HB.out gwr).set hpl x, (hb.trans (HB.out.mono (by have := hb.size; omega))).setCell (p := ⟨g, p, none⟩) hg _⟩
            rw [List.getElem_set_ne (by omega)]
            exact hd t (by simpa using a) b (by omega)
          case measure => simp [intOf]; omega
      · obtain rfl : q = n := by omega
        have hqn := HN.out
        rw [show xs.take q = xs from List.take_of_length_le (by omega)] at ht
        have hplt : p < L.length := by omega
        have hcl := fun ty => Lib.run_clear_slice (P := Tryd.prog) wr 22 3 ty (.int .i64 0) Tryd.underlying22 zI rfl rfl g p (q - p) (c - p) (by omega) (fun j hj => by rw [(hr (p + j) (by omega)).1]; rfl) (fun j hj => (hr (p + j) (by omega)).2)
        have HH := Lib.hid (And.intro hL (And.intro ht (And.intro hr hb)))
        have z1 : (p : Int) ≤ (q : Int) := by omega
        have z2 : (0 : Int) ≤ (p : Int) := by omega
        have z3 : (p : Int) ≤ (c : Int) := by omega
        have z4 : ¬ (q : Int) < (q : Int) := by omega
        clear hL ht hd hr hb C hqn
        go_wp2_with fail
        obtain ⟨hL, ht, hr, hb⟩ := HH.out
        have hpe : p = (xs.filter fun x => !strWit ys x).length := by rw [← ht, List.length_take]; omega
        go_ret
        refine ⟨some ⟨g, 0, none⟩, c, ?_, fun _ => ⟨g, rfl, hg, ?_⟩, below_cells hg _ _ _ hb⟩
        · rw [← hpe]; rfl
        · rw [← ht]; exact hr.cleared p _
theorem without_any (xs ys : List Int) (A B : Option Addr) (c1 c2 : Nat) (w : World) (ha : Ints w A xs) (hb : Ints w B ys) (hs : ascB ys = true) :
    Calls Tryd.prog 56 #[.slice A xs.length c1, .slice B ys.length c2] w (KeptOk (xs.filter fun x => !strWit ys x) w.heap.size w) := by
  have CL := Lib.hid (clone_any xs A c1 (w.alloc (.cells #[.slice B ys.length c2] 22)) (ha.over ((Below.refl _ w).alloc (Nat.le_refl _) _)))
  have hl := ha.1
  have B0 : Below w.heap.size w (w.alloc (.cells #[.slice B ys.length c2] 22)) := (Below.refl _ w).alloc (Nat.le_refl _) _
  have DL := Lib.hid (fun (A : Option Addr) (c : Nat) (w1 : World) (hc : xs.length ≤ c) (hk : Below (w.heap.size + 1) (w.alloc (.cells #[.slice B ys.length c2] 22)) w1) (hx : 0 < xs.length → ∃ g, A = some ⟨g, 0, none⟩ ∧ w.heap.size + 1 ≤ g ∧ RowAt w1 g xs) =>
    deleteWit_any xs ys A c w.heap.size (w.heap.size + 1) w1 hl hc hx (fun x w2 hk2 => closWit_any x ys w.heap.size B c2 w2 (by
        have c0 : (w.alloc (.cells #[.slice B ys.length c2] 22)).cell? ⟨w.heap.size, 0, none⟩ = some (.slice B ys.length c2) := by simp [go_sem]
        exact ((hk.trans hk2).cell (p := ⟨w.heap.size, 0, none⟩) (Nat.lt_succ_self _)).trans c0) (hb.over (B0.trans ((hk.trans hk2).mono (Nat.le_succ _)))) hs) (by have := hk.size; simp at this; omega))
  clear ha hb hs
  generalize hK : (xs.filter fun x => !strWit ys x) = ks at *
  clear hK
  go_enter Tryd.func56, Tryd.ntmps56
  go_wp2_with fail
  refine CL.out.mono ?_
  rintro e w1 ⟨A1, k1, rfl, hk1, hx, hb1⟩
  rw [World.size_alloc] at hb1 hx
  have B1 := Lib.hid (B0.trans (hb1.mono (Nat.le_succ _)))
  have DX := Lib.hid ((DL.out A1 k1 w1 hk1 hb1 hx).mono fun e w' h => h.shape)
  clear CL DL hb1 hx
  generalize hKO : KeptOk ks (w.heap.size + 1) w1 = Q at *
  go_wp2_with (go_at_call 72; refine DX.out.mono ?_; rintro e w2 ⟨A2, k2, rfl, hq⟩; have HQ := Lib.hid hq; clear hq)
  go_ret
  have hq := HQ.out
  rw [← hKO] at hq
  obtain ⟨A3, k3, e3, h3, b3⟩ := hq
  injection e3 with e3
  injection e3 with ea el ec
  subst ea ec
  exact ⟨A2, k2, rfl, fun h0 => by obtain ⟨g, q1, q2, q3⟩ := h3 h0; exact ⟨g, q1, by omega, q3⟩, B1.out.trans (b3.mono (Nat.le_succ _))⟩
end Go.Proofs.YthakhdbakmlooaaDoor

/-
  Lists of lists as they lie; whether all ascend; parts and equality of lists.
-/
namespace Go.Proofs.YthakhdbakmlooaaDoor
open Go Go.RowKit Go.Ev

/-- a slice of slices of integers that lies in a world -/
def LL (w : World) (A : Option Addr) (ls : List (List Int)) : Prop := ls.length ≤ 1000000 ∧
  (0 < ls.length → ∃ b off, A = some ⟨b, off, none⟩ ∧ b < w.heap.size ∧ ∃ (AF : Nat → Option Addr) (CF : Nat → Nat), (∀ i, AF i = none → CF i = 0) ∧ ∀ i (h : i < ls.length), w.cell? ⟨b, off + i, none⟩ = some (.slice (AF i) ls[i].length (CF i)) ∧ Ints w (AF i) ls[i])
theorem LL.over {w w' : World} {A : Option Addr} {ls : List (List Int)} (h : LL w A ls) (k : Below w.heap.size w w') : LL w' A ls :=
  ⟨h.1, fun hp => by
    obtain ⟨b, off, e, hb, AF, CF, hz, hc⟩ := h.2 hp
    exact ⟨b, off, e, Nat.lt_of_lt_of_le hb k.size, AF, CF, hz, fun i hi => ⟨(k.cell (p := ⟨b, off + i, none⟩) hb).trans (hc i hi).1, (hc i hi).2.over k⟩⟩⟩
theorem filter_len {xs : List Int} {p : Int → Bool} : (((xs.filter p).length : Int) == 0) = xs.all fun x => !p x := by
  rw [Bool.eq_iff_iff, beq_iff_eq, List.all_eq_true]
  constructor
  · intro h x hx
    have h0 : xs.filter p = [] := List.eq_nil_of_length_eq_zero (by omega)
    have := List.filter_eq_nil_iff.1 h0 x hx
    simpa using this
  · intro h
    rw [show xs.filter p = [] from List.filter_eq_nil_iff.2 fun x hx => by have := h x hx; simpa using this]
    rfl
theorem isPart_any (xs ys : List Int) (A B : Option Addr) (c1 c2 : Nat) (w : World) (ha : Ints w A xs) (hb : Ints w B ys) (hs : ascB ys = true) :
    Calls Tryd.prog 54 #[.slice A xs.length c1, .slice B ys.length c2] w fun e w' => e = .returned (.bool (xs.all fun x => ys.contains x)) ∧ Below w.heap.size w w' := by
  have WO := Lib.hid (without_any xs ys A B c1 c2 w ha hb hs)
  have FL := Lib.hid (filter_len (xs := xs) (p := fun x => !strWit ys x))
  have hll : (xs.filter fun x => !strWit ys x).length ≤ 1000000 := Nat.le_trans (List.length_filter_le _ _) ha.1
  have ER := Lib.hid (show (xs.all fun x => ys.contains x) = xs.all fun x => !!strWit ys x by simp [strWit])
  clear ha hb hs
  generalize (xs.filter fun x => !strWit ys x) = ks at *
  go_enter Tryd.func54, Tryd.ntmps54
  go_wp2_with (go_at_call 56; refine WO.out.mono ?_; rintro e w1 ⟨A1, k1, rfl, _, hb⟩; have HB := Lib.hid hb; clear hb)
  go_ret
  exact ⟨by rw [ER.out, ← FL.out]; rfl, HB.out⟩
theorem holds1_any (xs : List Int) (A : Option Addr) (c : Nat) (w : World) (ha : Ints w A xs) :
    Calls Tryd.prog 52 #[.slice A xs.length c] w fun e w' => e = .returned (.bool (!ascB xs)) ∧ Below w.heap.size w w' := by
  have C := Lib.hid (ascends_any xs A c w ha)
  clear ha
  generalize ascB xs = R at *
  generalize xs.length = m at *
  go_enter Tryd.func52, Tryd.ntmps52
  go_wp2_with (go_at_call 53; refine C.out.mono ?_; rintro e w1 ⟨rfl, h⟩; have HB := Lib.hid h; clear h)
  go_ret
  exact ⟨rfl, HB.out⟩
set_option maxHeartbeats 1000000 in
theorem indexAsc_any (ls : List (List Int)) (A : Option Addr) (c1 : Nat) (w : World) (ha : LL w A ls) :
    Calls Tryd.prog 71 #[.slice A ls.length c1, .func (.func 52) #[] #[]] w fun e w' => ∃ r : Int, e = .returned (.int .i64 r) ∧ decide (0 ≤ r) = (ls.any fun l => !ascB l) ∧ Below w.heap.size w w' := by
  have hlx := ha.1
  have HA := Lib.hid ha.2
  go_enter Tryd.func71, Tryd.ntmps71
  go_wp2_with fail
  go_loopw [5, 8] (fun _ i wr => ∃ k : Nat, k ≤ ls.length ∧ i = .int .i64 k ∧ (∀ j (hj : j < k) (hl : j < ls.length), ascB ls[j] = true) ∧ Below w.heap.size w wr) (fun _ i _ => ls.length - (intOf i).toNat)
  case atStart => exact ⟨0, Nat.zero_le _, rfl, fun j hj => absurd hj (Nat.not_lt_zero _), Below.refl _ _⟩
  case round =>
    obtain ⟨k, hk, rfl, hall, hbw⟩ := hrel
    have HL := Lib.hid hall
    have HBW := Lib.hid hbw
    clear hall hbw
    by_cases hlt : k < ls.length
    · obtain ⟨b1, o1, rfl, hb1', AF, CF, _, g1⟩ := HA.out (by omega)
      have x1 := (HBW.out.cell (p := ⟨b1, o1 + k, none⟩) hb1').trans (g1 k hlt).1
      have C2 := Lib.hid (holds1_any ls[k] (AF k) (CF k) wr ((g1 k hlt).2.over HBW.out))
      have z1 : (k : Int) < (ls.length : Int) := by omega
      have z2 : (0 : Int) ≤ (k : Int) := by omega
      generalize hx : ls[k] = x at *
      have HX := Lib.hid hx
      clear g1 HA hx
      cases hp : ascB x with
      | true =>
        rw [hp] at C2
        generalize x.length = lx at *
        go_wp2_with (go_at_call 52; refine C2.out.mono ?_; rintro e w1 ⟨rfl, hb⟩; have HB := Lib.hid (HBW.out.trans (hb.mono HBW.out.size)); clear hb)
        go_roundw
        case rel =>
          refine ⟨k + 1, by omega, by go_num, fun j hj hl => ?_, HB.out⟩
          rcases Nat.lt_or_ge j k with h | h
          · exact HL.out j h hl
          · obtain rfl : j = k := by omega
            rw [HX.out]; exact hp
        case measure => simp [intOf]; omega
      | false =>
        rw [hp] at C2
        generalize x.length = lx at *
        go_wp2_with (go_at_call 52; refine C2.out.mono ?_; rintro e w1 ⟨rfl, hb⟩; have HB := Lib.hid (HBW.out.trans (hb.mono HBW.out.size)); clear hb)
        go_ret
        refine ⟨_, rfl, ?_, HB.out⟩
        rw [decide_eq_true (by omega)]
        symm
        rw [List.any_eq_true]
        exact ⟨x, by rw [← HX.out]; exact List.getElem_mem _, by rw [hp]; rfl⟩
    · obtain rfl : k = ls.length := by omega
      clear HA
      go_wp2_with fail
      go_ret
      refine ⟨_, rfl, ?_, HBW.out⟩
      rw [decide_eq_false (by omega)]
      symm
      rw [List.any_eq_false]
      intro x hx
      obtain ⟨j, hj, rfl⟩ := List.getElem_of_mem hx
      rw [HL.out j hj hj]; simp
theorem anyAsc_any (ls : List (List Int)) (A : Option Addr) (c1 : Nat) (w : World) (ha : LL w A ls) :
    Calls Tryd.prog 51 #[.slice A ls.length c1, .func (.func 52) #[] #[]] w fun e w' => e = .returned (.bool (ls.any fun l => !ascB l)) ∧ Below w.heap.size w w' := by
  have C := Lib.hid (indexAsc_any ls A c1 w ha)
  generalize (ls.any fun l => !ascB l) = R at *
  go_enter Tryd.func51, Tryd.ntmps51
  go_wp2_with (go_at_call 71; refine C.out.mono ?_; rintro e w1 ⟨r, rfl, hr, hb⟩; have HB := Lib.hid hb; clear hb)
  go_ret
  exact ⟨by rw [← hr]; rfl, HB.out⟩
end Go.Proofs.YthakhdbakmlooaaDoor
