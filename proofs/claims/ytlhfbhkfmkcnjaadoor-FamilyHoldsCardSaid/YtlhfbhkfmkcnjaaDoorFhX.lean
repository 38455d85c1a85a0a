/-
  Lean relations; the law's body.
-/
import Derived.Deep.RegionHeld
import Derived.Test.YtlhfbhkfmkcnjaaDoorFhAw
import Derived.Test.YtlhfbhkfmkcnjaaDoorFhQ
namespace Go.Proofs.YtlhfbhkfmkcnjaaDoor
set_option linter.unusedSimpArgs false
open Go Go.RowKit Go.Ev

/-- integers that lie, however many -/
def IntsF (w : World) (A : Option Addr) (xs : List Int) : Prop := (∀ x ∈ xs, -9223372036854775808 ≤ x ∧ x ≤ 9223372036854775807) ∧
  (0 < xs.length → ∃ b off, A = some ⟨b, off, none⟩ ∧ b < w.heap.size ∧ ∀ i (h : i < xs.length), w.cell? ⟨b, off + i, none⟩ = some (.int .i64 xs[i]))
theorem IntsF.small {w : World} {A : Option Addr} {xs : List Int} (h : IntsF w A xs) (hl : xs.length ≤ 1000000) : Ints w A xs := ⟨hl, h.1, h.2⟩
/-- lists of integers that lie, however many -/
def LLF (w : World) (A : Option Addr) (ls : List (List Int)) : Prop :=
  0 < ls.length → ∃ b off, A = some ⟨b, off, none⟩ ∧ b < w.heap.size ∧ ∃ (AF : Nat → Option Addr) (CF : Nat → Nat), (∀ i, AF i = none → CF i = 0) ∧ ∀ i (h : i < ls.length), w.cell? ⟨b, off + i, none⟩ = some (.slice (AF i) ls[i].length (CF i)) ∧ IntsF w (AF i) ls[i]
theorem LLF.small {w : World} {A : Option Addr} {ls : List (List Int)} (h : LLF w A ls) (hl : ls.length ≤ 1000000) (hs : ∀ l ∈ ls, l.length ≤ 200) : LL w A ls :=
  ⟨hl, fun hp => by
    obtain ⟨b, off, e, hb, AF, CF, hz, hc⟩ := h hp
    exact ⟨b, off, e, hb, AF, CF, hz, fun i hi => ⟨(hc i hi).1, (hc i hi).2.small (by have := hs _ (List.getElem_mem hi); omega)⟩⟩⟩
def leanB (k : ByteArray) (n : Nat) : Bool := decide (n ≤ 10) && decide (k.size ≤ 100)
set_option maxRecDepth 100000 in
set_option maxHeartbeats 4000000 in
theorem flean_any (k : ByteArray) (n c1 : Nat) (N : Int) (A : Option Addr) (g : Nat) (w : World) (h0 : w.cell? ⟨g, 0, none⟩ = some (.string k)) (h1 : w.cell? ⟨g, 1, none⟩ = some (.slice A n c1)) (h2 : w.cell? ⟨g, 2, none⟩ = some (.int .i64 N)) :
    Calls Tryd.prog 41 #[.slice (some ⟨g, 0, none⟩) 1 1] w fun e w' => e = .returned (.bool (leanB k n)) ∧ Below w.heap.size w w' := by
  have hg : g < w.heap.size := cellLt (p := ⟨g, 0, none⟩) h0
  have HC := Lib.hid (show ∀ wx, Below w.heap.size w wx → wx.cell? ⟨g, 0, none⟩ = some (.string k) ∧ wx.cell? ⟨g, 1, none⟩ = some (.slice A n c1) ∧ wx.cell? ⟨g, 2, none⟩ = some (.int .i64 N) from fun wx h => ⟨(h.cell (p := ⟨g, 0, none⟩) hg).trans h0, (h.cell (p := ⟨g, 1, none⟩) hg).trans h1, (h.cell (p := ⟨g, 2, none⟩) hg).trans h2⟩)
  obtain ⟨R, hR⟩ : ∃ R, leanB k n = R := ⟨_, rfl⟩
  rw [hR]
  unfold leanB at hR
  have HR := Lib.hid hR
  clear hR h0 h1 h2
  go_enter Tryd.func41, Tryd.ntmps41
  go_wp2_with fail
  go_loopw [4, 7] (fun _ i wr => ∃ q : Nat, (q = 0 ∨ (q = 1 ∧ R = true)) ∧ i = .int .i64 q ∧ Below w.heap.size w wr) (fun _ i _ => 1 - (intOf i).toNat)
  case atStart => exact ⟨0, Or.inl rfl, rfl, Below.refl _ _⟩
  case round =>
    obtain ⟨q, hq, rfl, hbw⟩ := hrel
    have HBW := Lib.hid hbw
    obtain ⟨y0, y1, y2⟩ := HC.out _ hbw
    clear hbw
    rcases hq with rfl | ⟨rfl, rfl⟩
    · have BA := Lib.hid (fun o => HBW.out.alloc HBW.out.size o)
      by_cases hn : (10 : Int) < (n : Int)
      · have HZ := Lib.hid (show R = false by rw [← HR.out, decide_eq_false (show ¬ n ≤ 10 by omega)]; rfl)
        clear HR
        go_wp2_with fail
        go_ret
        exact ⟨by rw [HZ.out]; rfl, BA.out _⟩
      · by_cases hk : (100 : Int) < (k.size : Int)
        · have HZ := Lib.hid (show R = false by rw [← HR.out, decide_eq_false (show ¬ k.size ≤ 100 by omega), Bool.and_false])
          clear HR
          go_wp2_with fail
          go_ret
          exact ⟨by rw [HZ.out]; rfl, BA.out _⟩
        · have HZ := Lib.hid (show R = true by rw [← HR.out, decide_eq_true (show n ≤ 10 by omega), decide_eq_true (show k.size ≤ 100 by omega)]; rfl)
          clear HR
          go_wp2_with fail
          go_roundw
          case rel => exact ⟨1, Or.inr ⟨rfl, HZ.out⟩, by go_num, BA.out _⟩
          case measure => simp [intOf]
    · clear HR
      go_wp2_with fail
      go_ret
      exact ⟨rfl, HBW.out⟩
set_option maxRecDepth 100000 in
set_option maxHeartbeats 8000000 in
theorem FamilyHolds_any (k : ByteArray) (vs : List Int) (N : Int) (ls : List (List Int)) (A B : Option Addr) (c1 c2 : Nat) (w : World) (hT : TabIn w) (ha : IntsF w A vs) (hb : LLF w B ls) :
    Calls Tryd.prog 5 #[.agg #[.string k, .slice A vs.length c1, .int .i64 N], .slice B ls.length c2] w fun e w' => e = .returned (.bool true) ∧ Below w.heap.size w w' := by
  obtain ⟨d, hd⟩ := kind_of k.toList
  have AW := Lib.hid (fun w1 (h : Below w.heap.size w w1) => fawake_any w1 (hT.below h hT.lt))
  have HA := Lib.hid ha
  have HB := Lib.hid hb
  have HK := Lib.hid hd
  have B2 := Lib.hid (show ∀ o1 o2, Below w.heap.size w ((w.alloc o1).alloc o2) from fun o1 o2 => ((Below.refl _ w).alloc (Nat.le_refl _) _).alloc (by simp) _)
  have B1 := Lib.hid (show ∀ o1 o2, Below (w.alloc o1).heap.size (w.alloc o1) ((w.alloc o1).alloc o2) from fun o1 o2 => (Below.refl _ _).alloc (Nat.le_refl _) _)
  clear hd hT ha hb
  have LE := Lib.hid (fun (w1 : World) (g : Nat) (h0 : w1.cell? ⟨g, 0, none⟩ = some (.string k)) (h1 : w1.cell? ⟨g, 1, none⟩ = some (.slice A vs.length c1)) (h2 : w1.cell? ⟨g, 2, none⟩ = some (.int .i64 N)) => flean_any k vs.length c1 N A g w1 h0 h1 h2)
  have LC := Lib.hid (show ∀ o, ((w.alloc o).alloc (.cells #[.string k, .slice A vs.length c1, .int .i64 N] 49)).cell? ⟨w.heap.size + 1, 0, none⟩ = some (.string k) ∧ ((w.alloc o).alloc (.cells #[.string k, .slice A vs.length c1, .int .i64 N] 49)).cell? ⟨w.heap.size + 1, 1, none⟩ = some (.slice A vs.length c1) ∧ ((w.alloc o).alloc (.cells #[.string k, .slice A vs.length c1, .int .i64 N] 49)).cell? ⟨w.heap.size + 1, 2, none⟩ = some (.int .i64 N) from fun o => by
    have := heap_alloc2_new w o (.cells #[.string k, .slice A vs.length c1, .int .i64 N] 49)
    simp only [World.cell?, this]; exact ⟨rfl, rfl, rfl⟩)
  cases hlean : leanB k vs.length with
  | false =>
    rw [hlean] at LE
    clear HA HB HK hlean
    generalize vs.length = lv at *
    generalize ls.length = ll at *
    go_enter Tryd.func5, Tryd.ntmps5
    go_wp2_with (first | (go_at_call 41; refine (LE.out _ _ (LC.out _).1 (LC.out _).2.1 (LC.out _).2.2).mono ?_; rintro e w2 ⟨rfl, hb⟩; have H2 := Lib.hid ((B2.out _ _).trans (hb.mono (B2.out _ _).size)); clear hb) | (go_at_call 26; refine (AW.out _ H2.out).mono ?_; rintro e w3 ⟨rfl, hb⟩; have H3 := Lib.hid (H2.out.trans (hb.mono H2.out.size)); clear hb))
    go_ret
    exact ⟨rfl, H3.out⟩
  | true =>
    rw [hlean] at LE
    have hl10 : vs.length ≤ 10 := by
      unfold leanB at hlean
      rw [Bool.and_eq_true] at hlean
      exact of_decide_eq_true hlean.1
    clear hlean
    by_cases h50 : (50 : Int) < (ls.length : Int)
    · clear HA HB HK
      generalize vs.length = lv at *
      generalize ls.length = ll at *
      go_enter Tryd.func5, Tryd.ntmps5
      go_wp2_with (first | (go_at_call 41; refine (LE.out _ _ (LC.out _).1 (LC.out _).2.1 (LC.out _).2.2).mono ?_; rintro e w2 ⟨rfl, hb⟩; have H2 := Lib.hid ((B2.out _ _).trans (hb.mono (B2.out _ _).size)); clear hb) | (go_at_call 26; refine (AW.out _ H2.out).mono ?_; rintro e w3 ⟨rfl, hb⟩; have H3 := Lib.hid (H2.out.trans (hb.mono H2.out.size)); clear hb))
      go_ret
      exact ⟨rfl, H3.out⟩
    · have hb50 : ls.length ≤ 50 := by omega
      have GA := Lib.hid (HA.out.small (by omega))
      clear HA
      have BX := Lib.hid (show ∀ wx, Below (w.alloc (.cells #[.string k, .slice A vs.length c1, .int .i64 N] 49)).heap.size (w.alloc (.cells #[.string k, .slice A vs.length c1, .int .i64 N] 49)) wx → wx.cell? ⟨w.heap.size, 0, none⟩ = some (.string k) ∧ wx.cell? ⟨w.heap.size, 1, none⟩ = some (.slice A vs.length c1) ∧ wx.cell? ⟨w.heap.size, 2, none⟩ = some (.int .i64 N) from
        fun wx h => ⟨(h.cell (p := ⟨w.heap.size, 0, none⟩) (by simp)).trans (by simp [go_sem]), (h.cell (p := ⟨w.heap.size, 1, none⟩) (by simp)).trans (by simp [go_sem]), (h.cell (p := ⟨w.heap.size, 2, none⟩) (by simp)).trans (by simp [go_sem])⟩)
      have BA := Lib.hid (show Below w.heap.size w (w.alloc (.cells #[.string k, .slice A vs.length c1, .int .i64 N] 49)) from (Below.refl _ w).alloc (Nat.le_refl _) _)
      go_enter Tryd.func5, Tryd.ntmps5
      go_wp2_with (go_at_call 41; refine (LE.out _ _ (LC.out _).1 (LC.out _).2.1 (LC.out _).2.2).mono ?_; rintro e w2 ⟨rfl, hb⟩; have H2 := Lib.hid ((B1.out _ _).trans (hb.mono (B1.out _ _).size)); clear hb LE LC B2 B1)
      generalize hW1 : w.alloc (.cells #[.string k, .slice A vs.length c1, .int .i64 N] 49) = W1 at *
      have hs1 : W1.heap.size = w.heap.size + 1 := by rw [← hW1]; simp
      clear hW1
      have HW := Lib.hid (show ∀ wx, Below W1.heap.size W1 wx → Below w.heap.size w wx from fun wx h => BA.out.trans (h.mono (by omega)))
      go_loopw [6, 19] (fun _ i wr => ∃ q : Nat, q ≤ ls.length ∧ i = .int .i64 q ∧ (∀ j (hj : j < q) (hl : j < ls.length), ls[j].length ≤ 200) ∧ Below W1.heap.size W1 wr) (fun _ i _ => ls.length - (intOf i).toNat)
      case atStart => exact ⟨0, Nat.zero_le _, rfl, fun j hj => absurd hj (Nat.not_lt_zero _), H2.out⟩
      case round =>
        obtain ⟨q, hq, rfl, hall, hbw⟩ := hrel
        have HL := Lib.hid hall
        have HBW := Lib.hid hbw
        have BW := Lib.hid (HW.out _ hbw)
        clear hall hbw
        by_cases hlt : q < ls.length
        · obtain ⟨b2, o2, rfl, hb2', AF, CF, hz, g2⟩ := HB.out (by omega)
          have x1 := (BW.out.cell (p := ⟨b2, o2 + q, none⟩) hb2').trans (g2 q hlt).1
          have z1 : (q : Int) < (ls.length : Int) := by omega
          have z2 : (0 : Int) ≤ (q : Int) := by omega
          have HQ := Lib.hid (show ∀ m, ls[q].length = m → ls[q].length = m from fun _ h => h)
          by_cases h2 : (200 : Int) < (ls[q].length : Int)
          · clear hz g2 HB HQ
            generalize ls[q].length = lq at *
            go_wp2_with (go_at_call 26; refine (AW.out _ BW.out).mono ?_; rintro e w3 ⟨rfl, hb⟩; have H3 := Lib.hid (BW.out.trans (hb.mono BW.out.size)); clear hb)
            go_ret
            exact ⟨rfl, H3.out⟩
          · have HQ2 := Lib.hid (show ls[q].length ≤ 200 by omega)
            clear hz g2 HQ HB
            generalize hlq : ls[q].length = lq at x1 h2
            clear hlq
            go_wp2_with fail
            go_roundw
            case rel =>
              refine ⟨q + 1, by omega, by go_num, fun j hj hl => ?_, HBW.out⟩
              rcases Nat.lt_or_ge j q with h | h
              · exact HL.out j h hl
              · obtain rfl : j = q := by omega
                exact HQ2.out
            case measure => simp [intOf]; omega
        · obtain rfl : q = ls.length := by omega
          have H200 := Lib.hid (show ∀ l ∈ ls, l.length ≤ 200 from fun l hl => by
            obtain ⟨j, hj, rfl⟩ := List.getElem_of_mem hl
            exact HL.out j hj hj)
          have GB := Lib.hid (HB.out.small (by omega) H200.out)
          have HP := Lib.hid (fun w1 (h : Below w.heap.size w w1) => Holds_p_any k d HK.out vs N ls A B c1 c2 w1 (GA.out.over h) (GB.out.over h))
          have HR := Lib.hid (fun w1 (h : Below w.heap.size w w1) => Holds_r_any k d HK.out vs N ls A B c1 c2 w1 (GA.out.over h) (GB.out.over h) H200.out)
          clear HB GA GB HK H200 HL
          generalize holdPB d vs N ls = X at *
          go_wp2_with fail
          have SX := Lib.hid (show ∀ W, Below W1.heap.size W1 W → (fun (wx : World) => wx.cell? ⟨w.heap.size, 0, none⟩ = some (.string k) ∧ wx.cell? ⟨w.heap.size, 1, none⟩ = some (.slice A vs.length c1) ∧ wx.cell? ⟨w.heap.size, 2, none⟩ = some (.int .i64 N)) W from BX.out)
          have HX0 := Lib.hid (show Below W1.heap.size W1 wr.drew from HBW.out.trans ⟨rfl, rfl, rfl, Nat.le_refl _, fun _ _ => rfl⟩)
          have S0 := SX.out _ HX0.out
          refine wp_region_held_drew (S := fun (wx : World) => wx.cell? ⟨w.heap.size, 0, none⟩ = some (.string k) ∧ wx.cell? ⟨w.heap.size, 1, none⟩ = some (.slice A vs.length c1) ∧ wx.cell? ⟨w.heap.size, 2, none⟩ = some (.int .i64 N)) (by kernel_rfl) S0 (fun hHeld => ?_)
          refine wpAnyH_take (i := 0) (oi := { dst := some 28, op := Op.load 49 (Operand.tmp 2), type := 49, pos := "law.go:138", after := #[], guard := none }) (v := ?vn1k0) rfl (by kernel_rfl) (by kernel_rfl) (by kernel_rfl) (fun _ _ _ h => h) (Or.inl ⟨by kernel_rfl, ?yn1k0⟩) (by assumption) ?rn1k0
          case yn1k0 => intro w hSw; (try dsimp only at hSw); go_simp; try with_reducible rfl
          try simp only [Act.put, List.setIfInBounds_toArray, List.set_cons_zero, List.set_cons_succ]
          refine wpAnyH_take (i := 1) (oi := { dst := some 29, op := Op.move (Operand.tmp 1), type := 50, pos := "law.go:138", after := #[], guard := none }) (v := ?vn2k1) rfl (by kernel_rfl) (by kernel_rfl) (by kernel_rfl) (fun _ _ _ h => h) (Or.inl ⟨by kernel_rfl, ?yn2k1⟩) (by assumption) ?rn2k1
          case yn2k1 => intro w hSw; (try dsimp only at hSw); go_simp; try with_reducible rfl
          try simp only [Act.put, List.setIfInBounds_toArray, List.set_cons_zero, List.set_cons_succ]
          refine wpAnyH_take (i := 3) (oi := { dst := some 31, op := Op.load 49 (Operand.tmp 2), type := 49, pos := "law.go:138", after := #[], guard := none }) (v := ?vn3k3) rfl (by kernel_rfl) (by kernel_rfl) (by kernel_rfl) (fun _ _ _ h => h) (Or.inl ⟨by kernel_rfl, ?yn3k3⟩) (by assumption) ?rn3k3
          case yn3k3 => intro w hSw; (try dsimp only at hSw); go_simp; try with_reducible rfl
          try simp only [Act.put, List.setIfInBounds_toArray, List.set_cons_zero, List.set_cons_succ]
          refine wpAnyH_take (i := 4) (oi := { dst := some 32, op := Op.move (Operand.tmp 1), type := 50, pos := "law.go:138", after := #[], guard := none }) (v := ?vn4k4) rfl (by kernel_rfl) (by kernel_rfl) (by kernel_rfl) (fun _ _ _ h => h) (Or.inl ⟨by kernel_rfl, ?yn4k4⟩) (by assumption) ?rn4k4
          case yn4k4 => intro w hSw; (try dsimp only at hSw); go_simp; try with_reducible rfl
          try simp only [Act.put, List.setIfInBounds_toArray, List.set_cons_zero, List.set_cons_succ]
          refine wpAnyH_ready (rs := [2]) (by kernel_rfl) (by simp) (AllReadyH.cons (o := { dst := some 30, op := Op.call { callee := Callee.value (Operand.func 42), args := #[Operand.tmp 28, Operand.tmp 29], argTypes := #[49, 50] }, type := 4, pos := "law.go:138", after := #[{ on := 0, ground := Ground.data }, { on := 1, ground := Ground.data }], guard := none }) rfl (fun K hK => ?_) AllReadyH.nil)
          go_simp
          refine (HP.out _ (HW.out _ HX0.out)).mono ?_
          rintro e x1 ⟨rfl, hb⟩
          have HX1 := Lib.hid (show Below W1.heap.size W1 x1 from HX0.out.trans (hb.mono HX0.out.size))
          have S1 := SX.out _ HX1.out
          clear hb hHeld
          refine hK.out _ _ S1 (fun hHeld => ?_)
          clear hK K
          try simp only [Act.put, List.setIfInBounds_toArray, List.set_cons_zero, List.set_cons_succ]
          refine wpAnyH_ready (rs := [5]) (by kernel_rfl) (by simp) (AllReadyH.cons (o := { dst := some 33, op := Op.call { callee := Callee.value (Operand.func 43), args := #[Operand.tmp 31, Operand.tmp 32], argTypes := #[49, 50] }, type := 4, pos := "law.go:138", after := #[{ on := 3, ground := Ground.data }, { on := 4, ground := Ground.data }, { on := 2, ground := Ground.chain }], guard := none }) rfl (fun K hK => ?_) AllReadyH.nil)
          go_simp
          refine (HR.out _ (HW.out _ HX1.out)).mono ?_
          rintro e x2 ⟨rfl, hb⟩
          have HX2 := Lib.hid (show Below W1.heap.size W1 x2 from HX1.out.trans (hb.mono HX1.out.size))
          have S2 := SX.out _ HX2.out
          clear hb hHeld
          refine hK.out _ _ S2 (fun hHeld => ?_)
          clear hK K
          try simp only [Act.put, List.setIfInBounds_toArray, List.set_cons_zero, List.set_cons_succ]
          refine wpAnyH_take (i := 6) (oi := { dst := some 34, op := Op.binOp BinOp.eql 4 (Operand.tmp 30) (Operand.tmp 33) 4, type := 4, pos := "law.go:138", after := #[{ on := 2, ground := Ground.data }, { on := 5, ground := Ground.data }], guard := none }) (v := ?vn5k6) rfl (by kernel_rfl) (by kernel_rfl) (by kernel_rfl) (fun _ _ _ h => h) (Or.inl ⟨by kernel_rfl, ?yn5k6⟩) (by assumption) ?rn5k6
          case yn5k6 => intro w hSw; (try dsimp only at hSw); go_simp; try with_reducible rfl
          try simp only [Act.put, List.setIfInBounds_toArray, List.set_cons_zero, List.set_cons_succ]
          refine wpAnyH_take (i := 7) (oi := { dst := some 35, op := Op.move (Operand.tmp 34), type := 4, pos := "law.go:138", after := #[{ on := 6, ground := Ground.data }, { on := 5, ground := Ground.chain }], guard := none }) (v := ?vn6k7) rfl (by kernel_rfl) (by kernel_rfl) (by kernel_rfl) (fun _ _ _ h => h) (Or.inl ⟨by kernel_rfl, ?yn6k7⟩) (by assumption) ?rn6k7
          case yn6k7 => intro w hSw; (try dsimp only at hSw); go_simp; try with_reducible rfl
          try simp only [Act.put, List.setIfInBounds_toArray, List.set_cons_zero, List.set_cons_succ]
          refine wpAnyH_ready (rs := [8]) (by kernel_rfl) (by simp) (AllReadyH.cons (o := { dst := some 36, op := Op.call { callee := Callee.value (Operand.func 26), args := #[], argTypes := #[] }, type := 4, pos := "law.go:138", after := #[{ on := 7, ground := Ground.chain }, { on := 7, ground := Ground.guard }], guard := some (7, true) }) rfl (fun K hK => ?_) AllReadyH.nil)
          go_simp
          refine (AW.out _ (HW.out _ HX2.out)).mono ?_
          rintro e x3 ⟨rfl, hb⟩
          have HX3 := Lib.hid (show Below W1.heap.size W1 x3 from HX2.out.trans (hb.mono HX2.out.size))
          have S3 := SX.out _ HX3.out
          clear hb hHeld
          refine hK.out _ _ S3 (fun hHeld => ?_)
          clear hK K
          try simp only [Act.put, List.setIfInBounds_toArray, List.set_cons_zero, List.set_cons_succ]
          refine wpAnyH_take (i := 9) (oi := { dst := some 37, op := Op.pick (Operand.tmp 35) (Operand.tmp 36) (Operand.const (Value.bool false)), type := 4, pos := "law.go:138", after := #[{ on := 7, ground := Ground.data }, { on := 8, ground := Ground.data }], guard := none }) (v := ?vn7k9) rfl (by kernel_rfl) (by kernel_rfl) (by kernel_rfl) (fun _ _ _ h => h) (Or.inl ⟨by kernel_rfl, ?yn7k9⟩) (by assumption) ?rn7k9
          case yn7k9 => intro w hSw; (try dsimp only at hSw); go_simp; try with_reducible rfl
          try simp only [Act.put, List.setIfInBounds_toArray, List.set_cons_zero, List.set_cons_succ]
          refine wpAnyH_take (i := 10) (oi := { dst := some 4, op := Op.assign (Operand.tmp 37), type := 4, pos := "law.go:138", after := #[{ on := 9, ground := Ground.data }, { on := 8, ground := Ground.chain }, { on := 0, ground := Ground.phase }, { on := 1, ground := Ground.phase }, { on := 2, ground := Ground.phase }, { on := 3, ground := Ground.phase }, { on := 4, ground := Ground.phase }, { on := 5, ground := Ground.phase }, { on := 6, ground := Ground.phase }, { on := 7, ground := Ground.phase }, { on := 8, ground := Ground.phase }, { on := 9, ground := Ground.phase }], guard := none }) (v := ?vn8k10) rfl (by kernel_rfl) (by kernel_rfl) (by kernel_rfl) (fun _ _ _ h => h) (Or.inl ⟨by kernel_rfl, ?yn8k10⟩) (by assumption) ?rn8k10
          case yn8k10 => intro w hSw; (try dsimp only at hSw); go_simp; try with_reducible rfl
          try simp only [Act.put, List.setIfInBounds_toArray, List.set_cons_zero, List.set_cons_succ]
          refine wpAnyH_done (by kernel_rfl) ?_ _
          go_wp2_with fail
          go_ret
          exact ⟨by simp, HW.out _ HX3.out⟩
end Go.Proofs.YtlhfbhkfmkcnjaaDoor
