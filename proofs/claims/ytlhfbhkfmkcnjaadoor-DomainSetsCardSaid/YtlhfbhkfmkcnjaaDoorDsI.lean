/-
  A domain as sixteen words.
-/
import Derived.Test.YtlhfbhkfmkcnjaaDoorDsH
import Derived.Laws.Rows
namespace Go.Proofs.YtlhfbhkfmkcnjaaDoor
open Go Go.RowKit Go.Ev

def wv (ws : List Nat) : Array Value := (ws.map fun (x : Nat) => Value.int .u64 (x : Int)).toArray
theorem wv_get {ws : List Nat} {j : Nat} (h : j < ws.length) : (wv ws)[j]? = some (.int .u64 (ws[j] : Nat)) := by
  simp [wv, List.getElem?_eq_getElem h]
theorem wv_set {ws : List Nat} {j x : Nat} : (wv ws).setIfInBounds j (.int .u64 (x : Nat)) = wv (ws.set j x) := by
  simp [wv, List.map_set]
theorem bit_or {ws : List Nat} {j m v : Nat} (hj : j < ws.length) : bitAt (ws.set j (ws[j] ||| m)) v = (bitAt ws v || (decide (v / 64 = j) && m.testBit (v % 64))) := by
  unfold bitAt
  by_cases h : v / 64 = j
  · rw [h, decide_eq_true rfl, List.getD_eq_getElem?_getD, List.getElem?_set_self hj, List.getD_eq_getElem?_getD, List.getElem?_eq_getElem hj]
    simp [Nat.testBit_or]
  · rw [decide_eq_false h, List.getD_eq_getElem?_getD, List.getElem?_set_ne (by omega)]
    simp
theorem lt_heap {w : World} {b : Nat} {o : Obj} (h : w.heap[b]? = some o) : b < w.heap.size := by
  by_cases h2 : b < w.heap.size
  · exact h2
  · rw [Array.getElem?_eq_none (by omega)] at h; cases h
theorem alloc_old {w : World} {i : Nat} {x o : Obj} (h : w.heap[i]? = some x) : (w.alloc o).heap[i]? = some x := by
  have hl := lt_heap h
  show (w.heap.push o)[i]? = _
  rw [Array.getElem?_push, if_neg (by omega), h]
theorem alloc_new (w : World) (o : Obj) : (w.alloc o).heap[w.heap.size]? = some o := by
  show (w.heap.push o)[w.heap.size]? = _
  simp
theorem round_bits {us : List Nat} {j x m na nb : Nat} {q : Nat → Bool} (hj : j < us.length) (hx : us[j] = x) (hm : MaskOk j na nb m)
    (h : ∀ v : Nat, v < 1024 → bitAt us v = (q v || (inP v ((na : Int), (nb : Int)) && decide (v / 64 < j)))) :
    ∀ v : Nat, v < 1024 → bitAt (us.set j (x ||| m)) v = (q v || (inP v ((na : Int), (nb : Int)) && decide (v / 64 < j + 1))) := by
  intro v hv
  have h1 := bit_or (m := m) (v := v) hj
  rw [hx] at h1
  rw [h1, h v hv, hm.2 (v % 64) (Nat.mod_lt _ (by decide))]
  by_cases e : v / 64 = j
  · have e1 : decide ((na : Int) ≤ 64 * (j : Int) + ((v % 64 : Nat) : Int) ∧ 64 * (j : Int) + ((v % 64 : Nat) : Int) ≤ (nb : Int)) = inP v ((na : Int), (nb : Int)) := decide_eq_decide.2 (by simp only; omega)
    rw [e1, decide_eq_true e, decide_eq_false (show ¬ v / 64 < j by omega), decide_eq_true (show v / 64 < j + 1 by omega)]
    simp
  · rw [decide_eq_false e]
    have e2 : decide (v / 64 < j) = decide (v / 64 < j + 1) := decide_eq_decide.2 (by omega)
    rw [e2]; simp
theorem set_lt {us : List Nat} {j y : Nat} (h : ∀ x ∈ us, x < 18446744073709551616) (hy : y < 18446744073709551616) : ∀ x ∈ us.set j y, x < 18446744073709551616 := by
  intro x hx
  rcases List.mem_or_eq_of_mem_set hx with h1 | h1
  · exact h x h1
  · rw [h1]; exact hy
def zeros : List Nat := List.replicate 16 0
theorem sixteen {l : List Nat} (h : l.length = 16) : ∃ x0 x1 x2 x3 x4 x5 x6 x7 x8 x9 x10 x11 x12 x13 x14 x15, l = [x0, x1, x2, x3, x4, x5, x6, x7, x8, x9, x10, x11, x12, x13, x14, x15] := by
  match l, h with
  | [x0, x1, x2, x3, x4, x5, x6, x7, x8, x9, x10, x11, x12, x13, x14, x15], _ => exact ⟨x0, x1, x2, x3, x4, x5, x6, x7, x8, x9, x10, x11, x12, x13, x14, x15, rfl⟩
set_option maxHeartbeats 8000000 in
theorem setOf_any (d : List (Int × Int)) (A : Option Addr) (c : Nat) (w : World) (ha : Pairs w A d) (hv : vd 0 d = true) :
    Calls Tryd.prog 53 #[.slice A d.length c] w fun e w' => ∃ ws : List Nat, e = .returned (.agg (wv ws)) ∧ ws.length = 16 ∧ (∀ x ∈ ws, x < 18446744073709551616) ∧ (∀ v : Nat, v < 1024 → bitAt ws v = d.any (inP v)) ∧ Below w.heap.size w w' := by
  obtain ⟨ha1, ha2, ha3⟩ := ha
  have HA := Lib.hid ha3
  have VB := Lib.hid (vd_all (by omega) hv)
  clear ha2 ha3 hv
  go_enter Tryd.func53, Tryd.ntmps53
  go_wp2_with fail
  go_loopw [6, 9] (fun _ i wr => ∃ (k : Nat) (ws : List Nat), k ≤ d.length ∧ i = .int .i64 k ∧ ws.length = 16 ∧ (∀ x ∈ ws, x < 18446744073709551616) ∧ (∀ v : Nat, v < 1024 → bitAt ws v = (d.take k).any (inP v)) ∧ wr.heap[w.heap.size]? = some (.cells (wv zeros) 66 (0, 0)) ∧ wr.heap[w.heap.size + 1]? = some (.cells (wv ws) 66 (0, 0)) ∧ Below w.heap.size w wr) (fun _ i _ => d.length - (intOf i).toNat)
  case atStart =>
    refine ⟨0, zeros, Nat.zero_le _, rfl, rfl, by decide, fun v hv => ?_, ?_, ?_, ((Below.refl _ w).alloc (Nat.le_refl _) _).alloc (by simp) _⟩
    · simp only [List.take_zero, List.any_nil]
      have : ∀ j, zeros.getD j 0 = 0 := fun j => by
        unfold zeros
        rw [List.getD_eq_getElem?_getD, List.getElem?_replicate]
        split <;> rfl
      unfold bitAt
      rw [this, Nat.zero_testBit]
    · exact alloc_old (alloc_new _ _)
    · have := alloc_new (w.alloc (.cells (wv zeros) 66 (0, 0))) (.cells (wv zeros) 66 (0, 0))
      rw [World.size_alloc] at this
      exact this
  case round =>
    obtain ⟨k, ws, hk, rfl, hw1, hw2, hw3, hz, hs, hbw⟩ := hrel
    generalize wr = W1 at *
    have hsz := lt_heap hs
    by_cases hlt : k < d.length
    · obtain ⟨b1, o1, rfl, hb1', g1⟩ := HA.out (by omega)
      have x1 := (hbw.cell (p := ⟨b1, o1 + k * 2, none⟩) hb1').trans (g1 k hlt).1
      have x2 := (hbw.cell (p := ⟨b1, o1 + k * 2 + 1, none⟩) hb1').trans (g1 k hlt).2
      have hv := VB.out _ (List.getElem_mem hlt)
      have HT := Lib.hid (show ∀ v : Nat, (d.take (k + 1)).any (inP v) = ((d.take k).any (inP v) || inP v d[k]) by
        intro v; rw [List.take_succ_eq_append_getElem hlt, List.any_append]; simp)
      clear g1
      generalize d[k] = p at *
      obtain ⟨a, b⟩ := p
      simp only at x1 x2 hv
      have H1 := Lib.hid (And.intro hw1 (And.intro hw2 (And.intro hw3 (And.intro hz (And.intro hs hbw)))))
      have z3 : (k : Int) < (d.length : Int) := by omega
      have z4 : (0 : Int) ≤ (k : Int) := by omega
      clear HA VB hw1 hw2 hw3 hz hs hbw
      obtain ⟨na, rfl⟩ : ∃ na : Nat, a = na := ⟨a.toNat, by omega⟩
      obtain ⟨nb, rfl⟩ : ∃ nb : Nat, b = nb := ⟨b.toNat, by omega⟩
      go_wp2_with fail
      go_loopw [6] (fun i wx => ∃ (j : Nat) (us : List Nat), na / 64 ≤ j ∧ j ≤ nb / 64 + 1 ∧ i = .int .i64 j ∧ us.length = 16 ∧ (∀ x ∈ us, x < 18446744073709551616) ∧ (∀ v : Nat, v < 1024 → bitAt us v = ((d.take k).any (inP v) || (inP v ((na : Int), (nb : Int)) && decide (v / 64 < j)))) ∧ wx.heap[w.heap.size]? = some (.cells (wv zeros) 66 (0, 0)) ∧ wx.heap[w.heap.size + 1]? = some (.cells (wv us) 66 (0, 0)) ∧ wx.heap[W1.heap.size]? = some (.cells #[.int .i64 na, .int .i64 nb] 60 (0, 0)) ∧ Below w.heap.size w wx) (fun i _ => nb + 64 - 64 * (intOf i).toNat)
      case atStart =>
        obtain ⟨hw1, hw2, hw3, hz, hs, hbw⟩ := H1.out
        refine ⟨na / 64, ws, Nat.le_refl _, by have := Nat.div_le_div_right (c := 64) (show na ≤ nb by omega); omega, ?_, hw1, hw2, fun v hv => ?_, ?_, ?_, ?_, hbw.alloc hbw.size _⟩
        · rw [show ((na / 64 : Nat) : Int) = (na : Int) / 64 by omega]
        · rw [hw3 v hv]
          have : (inP v ((na : Int), (nb : Int)) && decide (v / 64 < na / 64)) = false := by
            unfold inP
            rw [Bool.and_eq_false_iff]
            by_cases h : v / 64 < na / 64
            · left; rw [decide_eq_false_iff_not]; simp only; omega
            · right; exact decide_eq_false h
          rw [this, Bool.or_false]
        · exact alloc_old hz
        · exact alloc_old hs
        · exact alloc_new _ _
      case round =>
        obtain ⟨j, us, hj1, hj2, rfl, hu1, hu2, hu3, hz, hs, hg, hbx⟩ := hrel
        have hs8 := hbx.size
        have hgl := lt_heap hg
        have hsl := lt_heap hs
        have d0 : wr.cell? ⟨W1.heap.size, 0, none⟩ = some (.int .i64 na) := by simp [World.cell?, hg]
        have d1 : wr.cell? ⟨W1.heap.size, 1, none⟩ = some (.int .i64 nb) := by simp [World.cell?, hg]
        by_cases hlt2 : j ≤ nb / 64
        · have hj16 : j < us.length := by omega
          have d2 : wr.cell? ⟨w.heap.size + 1, j, none⟩ = some (.int .u64 (us[j] : Nat)) := by
            have := wv_get hj16
            simp [World.cell?, hs, this]
          have f2 : wr.frozen? ⟨w.heap.size + 1, j, none⟩ = false := by simp [World.frozen?, hs]
          obtain ⟨x, hx⟩ : ∃ x, us[j] = x := ⟨_, rfl⟩
          have hxl : x < 18446744073709551616 := by rw [← hx]; exact hu2 _ (List.getElem_mem _)
          rw [hx] at d2
          have HXX := Lib.hid hx
          have HU := Lib.hid (And.intro hu1 (And.intro hu2 (And.intro hu3 (And.intro hz (And.intro hs (And.intro hg hbx))))))
          have hyj : (j : Int) ≤ (nb : Int) / 64 := by omega
          have hj0 : (0 : Int) ≤ (j : Int) := by omega
          have hj1' : (j : Int) < 16 := by omega
          generalize wr = W2 at *
          have MC : ∀ wx, (wx.cell? ⟨w.heap.size + 1, j, none⟩ = some (.int .u64 (x : Nat)) ∧ wx.frozen? ⟨w.heap.size + 1, j, none⟩ = false ∧ wx.cell? ⟨W1.heap.size, 0, none⟩ = some (.int .i64 na) ∧ wx.cell? ⟨W1.heap.size, 1, none⟩ = some (.int .i64 nb) ∧ Below W2.heap.size W2 wx) →
              Calls Tryd.prog 97 #[.int .i64 j, .int .i64 na, .int .i64 nb] wx fun e wy => ∃ m : Nat, e = .returned (.int .u64 m) ∧ MaskOk j na nb m ∧ (wy.cell? ⟨w.heap.size + 1, j, none⟩ = some (.int .u64 (x : Nat)) ∧ wy.frozen? ⟨w.heap.size + 1, j, none⟩ = false ∧ wy.cell? ⟨W1.heap.size, 0, none⟩ = some (.int .i64 na) ∧ wy.cell? ⟨W1.heap.size, 1, none⟩ = some (.int .i64 nb) ∧ Below W2.heap.size W2 wy) := by
            rintro wx ⟨k0, k1, k2, k3, k4⟩
            refine (mask_any j na nb wx (by omega) (by omega) (by omega) (by omega)).mono ?_
            rintro e wy ⟨m, rfl, hm, hb⟩
            have l1 := lt_cell (p := ⟨w.heap.size + 1, j, none⟩) k0
            have l2 := lt_cell (p := ⟨W1.heap.size, 0, none⟩) k2
            exact ⟨m, rfl, hm, (hb.cell (p := ⟨w.heap.size + 1, j, none⟩) l1).trans k0, (hb.frozen (p := ⟨w.heap.size + 1, j, none⟩) l1).trans k1, (hb.cell (p := ⟨W1.heap.size, 0, none⟩) l2).trans k2, (hb.cell (p := ⟨W1.heap.size, 1, none⟩) l2).trans k3, k4.trans (hb.mono k4.size)⟩
          have hS : W2.cell? ⟨w.heap.size + 1, j, none⟩ = some (.int .u64 (x : Nat)) ∧ W2.frozen? ⟨w.heap.size + 1, j, none⟩ = false ∧ W2.cell? ⟨W1.heap.size, 0, none⟩ = some (.int .i64 na) ∧ W2.cell? ⟨W1.heap.size, 1, none⟩ = some (.int .i64 nb) ∧ Below W2.heap.size W2 W2 := ⟨d2, f2, d0, d1, Below.refl _ _⟩
          clear hu1 hu2 hu3 hz hs hg hbx hx H1 HT
          go_wp2_with fail
          go_region_with (go_at_call 97; refine (MC _ (by first | assumption | exact ⟨d2, f2, d0, d1, (Below.refl _ _).drew⟩)).mono ?_; rintro e wy ⟨m, rfl, hm, hS2⟩; obtain ⟨k0, k1, k2, k3, k4⟩ := id hS2)
          all_goals
            (have KW := Lib.hid k4
             have HM := Lib.hid hm
             have s8 := k4.size
             clear MC hS hS2 k0 k1 k2 k3 k4 hm
             have hor := bits_or_u64_nat x m hxl HM.out.1
             go_wp2_with fail
             go_roundw
             case rel =>
               obtain ⟨hu1, hu2, hu3, hz, hs, hg, hbx⟩ := HU.out
               have n0 : w.heap.size ≠ w.heap.size + 1 := by omega
               have n1 : W1.heap.size ≠ w.heap.size + 1 := by omega
               refine ⟨j + 1, us.set j (x ||| m), by omega, by omega, by go_num, by rw [List.length_set]; exact hu1, set_lt hu2 (Nat.or_lt_two_pow (n := 64) hxl HM.out.1), round_bits hj16 HXX.out HM.out hu3, ?_, ?_, ?_, ?_⟩
               · exact (Below.heap_setCell _ _ _ _ n0).trans ((KW.out.block _ (by omega)).trans hz)
               · have h5 := heap_setCell_same _ (w.heap.size + 1) j _ _ (.int .u64 ((x ||| m : Nat) : Int)) ((KW.out.block _ hsl).trans hs)
                 rw [wv_set] at h5
                 first | exact h5 | (rw [hor]; exact h5)
               · exact (Below.heap_setCell _ _ _ _ n1).trans ((KW.out.block _ hgl).trans hg)
               · exact (hbx.trans (KW.out.mono hbx.size)).setCell (p := ⟨w.heap.size + 1, j, none⟩) (by show w.heap.size ≤ w.heap.size + 1; omega) _
             case measure => simp [intOf]; omega)
        · have hnj : ¬ (j : Int) ≤ (nb : Int) / 64 := by omega
          have HS := Lib.hid (And.intro hz (And.intro hs (And.intro hg hbx)))
          clear hz hs hg hbx
          go_wp2_with fail
          go_roundw
          case rel =>
            obtain ⟨hz, hs, hg, hbx⟩ := HS.out
            refine ⟨k + 1, us, by omega, by go_num, hu1, hu2, fun v hv => ?_, hz, hs, hbx⟩
            rw [hu3 v hv, HT.out]
            by_cases hp : inP v ((na : Int), (nb : Int)) = true
            · rw [hp]
              unfold inP at hp
              simp only [decide_eq_true_eq] at hp
              rw [decide_eq_true (show v / 64 < j by omega)]
              rfl
            · rw [Bool.not_eq_true] at hp; rw [hp]; rfl
          case measure => simp [intOf]; omega
    · obtain rfl : k = d.length := by omega
      rw [List.take_of_length_le (by omega)] at hw3
      have HB := Lib.hid hbw
      have H3 := Lib.hid hw3
      have H2 := Lib.hid hw2
      clear hbw hw2 hw3 HA VB
      obtain ⟨x0, x1, x2, x3, x4, x5, x6, x7, x8, x9, x10, x11, x12, x13, x14, x15, rfl⟩ := sixteen hw1
      have c0 : W1.cell? ⟨w.heap.size + 1, 0, none⟩ = some (.int .u64 (x0 : Nat)) := by simp [World.cell?, hs, wv]
      have c1 : W1.cell? ⟨w.heap.size + 1, 1, none⟩ = some (.int .u64 (x1 : Nat)) := by simp [World.cell?, hs, wv]
      have c2 : W1.cell? ⟨w.heap.size + 1, 2, none⟩ = some (.int .u64 (x2 : Nat)) := by simp [World.cell?, hs, wv]
      have c3 : W1.cell? ⟨w.heap.size + 1, 3, none⟩ = some (.int .u64 (x3 : Nat)) := by simp [World.cell?, hs, wv]
      have c4 : W1.cell? ⟨w.heap.size + 1, 4, none⟩ = some (.int .u64 (x4 : Nat)) := by simp [World.cell?, hs, wv]
      have c5 : W1.cell? ⟨w.heap.size + 1, 5, none⟩ = some (.int .u64 (x5 : Nat)) := by simp [World.cell?, hs, wv]
      have c6 : W1.cell? ⟨w.heap.size + 1, 6, none⟩ = some (.int .u64 (x6 : Nat)) := by simp [World.cell?, hs, wv]
      have c7 : W1.cell? ⟨w.heap.size + 1, 7, none⟩ = some (.int .u64 (x7 : Nat)) := by simp [World.cell?, hs, wv]
      have c8 : W1.cell? ⟨w.heap.size + 1, 8, none⟩ = some (.int .u64 (x8 : Nat)) := by simp [World.cell?, hs, wv]
      have c9 : W1.cell? ⟨w.heap.size + 1, 9, none⟩ = some (.int .u64 (x9 : Nat)) := by simp [World.cell?, hs, wv]
      have c10 : W1.cell? ⟨w.heap.size + 1, 10, none⟩ = some (.int .u64 (x10 : Nat)) := by simp [World.cell?, hs, wv]
      have c11 : W1.cell? ⟨w.heap.size + 1, 11, none⟩ = some (.int .u64 (x11 : Nat)) := by simp [World.cell?, hs, wv]
      have c12 : W1.cell? ⟨w.heap.size + 1, 12, none⟩ = some (.int .u64 (x12 : Nat)) := by simp [World.cell?, hs, wv]
      have c13 : W1.cell? ⟨w.heap.size + 1, 13, none⟩ = some (.int .u64 (x13 : Nat)) := by simp [World.cell?, hs, wv]
      have c14 : W1.cell? ⟨w.heap.size + 1, 14, none⟩ = some (.int .u64 (x14 : Nat)) := by simp [World.cell?, hs, wv]
      have c15 : W1.cell? ⟨w.heap.size + 1, 15, none⟩ = some (.int .u64 (x15 : Nat)) := by simp [World.cell?, hs, wv]
      have z0 : W1.cell? ⟨w.heap.size, 0, none⟩ = some (.int .u64 0) := by simp [World.cell?, hz, wv, zeros]
      have z1 : W1.cell? ⟨w.heap.size, 1, none⟩ = some (.int .u64 0) := by simp [World.cell?, hz, wv, zeros]
      have z2 : W1.cell? ⟨w.heap.size, 2, none⟩ = some (.int .u64 0) := by simp [World.cell?, hz, wv, zeros]
      have z3 : W1.cell? ⟨w.heap.size, 3, none⟩ = some (.int .u64 0) := by simp [World.cell?, hz, wv, zeros]
      have z4 : W1.cell? ⟨w.heap.size, 4, none⟩ = some (.int .u64 0) := by simp [World.cell?, hz, wv, zeros]
      have z5 : W1.cell? ⟨w.heap.size, 5, none⟩ = some (.int .u64 0) := by simp [World.cell?, hz, wv, zeros]
      have z6 : W1.cell? ⟨w.heap.size, 6, none⟩ = some (.int .u64 0) := by simp [World.cell?, hz, wv, zeros]
      have z7 : W1.cell? ⟨w.heap.size, 7, none⟩ = some (.int .u64 0) := by simp [World.cell?, hz, wv, zeros]
      have z8 : W1.cell? ⟨w.heap.size, 8, none⟩ = some (.int .u64 0) := by simp [World.cell?, hz, wv, zeros]
      have z9 : W1.cell? ⟨w.heap.size, 9, none⟩ = some (.int .u64 0) := by simp [World.cell?, hz, wv, zeros]
      have z10 : W1.cell? ⟨w.heap.size, 10, none⟩ = some (.int .u64 0) := by simp [World.cell?, hz, wv, zeros]
      have z11 : W1.cell? ⟨w.heap.size, 11, none⟩ = some (.int .u64 0) := by simp [World.cell?, hz, wv, zeros]
      have z12 : W1.cell? ⟨w.heap.size, 12, none⟩ = some (.int .u64 0) := by simp [World.cell?, hz, wv, zeros]
      have z13 : W1.cell? ⟨w.heap.size, 13, none⟩ = some (.int .u64 0) := by simp [World.cell?, hz, wv, zeros]
      have z14 : W1.cell? ⟨w.heap.size, 14, none⟩ = some (.int .u64 0) := by simp [World.cell?, hz, wv, zeros]
      have z15 : W1.cell? ⟨w.heap.size, 15, none⟩ = some (.int .u64 0) := by simp [World.cell?, hz, wv, zeros]
      have f0 : ∀ o, W1.frozen? ⟨w.heap.size, o, none⟩ = false := fun o => by simp [World.frozen?, hz]
      have hne : w.heap.size + 1 ≠ w.heap.size := by omega
      clear hs hz hw1
      go_wp2_with fail
      exact bodyPost_ret (v := .agg (wv [x0, x1, x2, x3, x4, x5, x6, x7, x8, x9, x10, x11, x12, x13, x14, x15])) (by simp [results, Tryd.results53, go_sem, wv, z0, z1, z2, z3, z4, z5, z6, z7, z8, z9, z10, z11, z12, z13, z14, z15]) rfl ⟨_, rfl, rfl, H2.out, H3.out, ((((((((((((((((HB.out.setCell (Nat.le_refl _) _).setCell (Nat.le_refl _) _).setCell (Nat.le_refl _) _).setCell (Nat.le_refl _) _).setCell (Nat.le_refl _) _).setCell (Nat.le_refl _) _).setCell (Nat.le_refl _) _).setCell (Nat.le_refl _) _).setCell (Nat.le_refl _) _).setCell (Nat.le_refl _) _).setCell (Nat.le_refl _) _).setCell (Nat.le_refl _) _).setCell (Nat.le_refl _) _).setCell (Nat.le_refl _) _).setCell (Nat.le_refl _) _).setCell (Nat.le_refl _) _)⟩
end Go.Proofs.YtlhfbhkfmkcnjaaDoor
