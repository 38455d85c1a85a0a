/-
  The domain of any numbers: the program's.
-/
import Derived.Test.YtlhfbhkfmkcnjaaDoorDsI
import Derived.Test.YtlhfbhkfmkcnjaaDoorDsK
namespace Go.Proofs.YtlhfbhkfmkcnjaaDoor
open Go Go.RowKit Go.Ev

theorem one_shl (t : Nat) (ht : t < 64) : IntKind.u64.wrap ((2 : Int) ^ t) = ((2 ^ t : Nat) : Int) := by
  have h : 2 ^ t < 18446744073709551616 := Nat.pow_lt_pow_right (n := 64) (by decide) ht
  have e : ((2 : Int) ^ t) = ((2 ^ t : Nat) : Int) := by simp
  rw [IntKind.wrap_u64, e]
  generalize (2 ^ t : Nat) = P at *
  omega
theorem add_bits {ws : List Nat} {v x : Nat} (hv : v ≤ 1000) (hj : v / 64 < ws.length) (hx : ws[v / 64] = x) (u : Nat) : bitAt (ws.set (v / 64) (x ||| 2 ^ (v % 64))) u = (bitAt ws u || decide (u = v)) := by
  have h := bit_or (m := 2 ^ (v % 64)) (v := u) hj
  rw [hx] at h
  rw [h, Nat.testBit_two_pow]
  congr 1
  by_cases e : u = v
  · subst e; simp
  · rw [decide_eq_false e]
    by_cases e1 : u / 64 = v / 64
    · rw [decide_eq_true e1, Bool.true_and, decide_eq_false_iff_not]; omega
    · rw [decide_eq_false e1]; rfl
set_option maxHeartbeats 4000000 in
theorem add_any (v : Nat) (hv : v ≤ 1000) (sb : Nat) (ws : List Nat) (w : World) (hl : ws.length = 16) (hw : ∀ x ∈ ws, x < 18446744073709551616) (hs : w.heap[sb]? = some (.cells (wv ws) 66 (0, 0))) :
    Calls Tryd.prog 50 #[.pointer (some ⟨sb, 0, none⟩), .int .i64 v] w fun e w' => e = .returned (.tuple #[]) ∧ ∃ us : List Nat, us.length = 16 ∧ (∀ x ∈ us, x < 18446744073709551616) ∧ (∀ u : Nat, u < 1024 → bitAt us u = (bitAt ws u || decide (u = v))) ∧ w'.heap[sb]? = some (.cells (wv us) 66 (0, 0)) ∧ ∀ n₀, n₀ ≤ sb → Below n₀ w w' := by
  have hj : v / 64 < ws.length := by omega
  have d0 : w.cell? ⟨sb, v / 64, none⟩ = some (.int .u64 (ws[v / 64] : Nat)) := by
    have := wv_get hj
    simp [World.cell?, hs, this]
  have f0 : w.frozen? ⟨sb, v / 64, none⟩ = false := by simp [World.frozen?, hs]
  have HS := Lib.hid hs
  have HW := Lib.hid hw
  clear hs hw
  have z1 : (v : Int) ≤ 1000 := by omega
  have z2 : (0 : Int) ≤ (v : Int) := by omega
  have z3 : (v : Int) / 64 < 16 := by omega
  have z4 : (0 : Int) ≤ (v : Int) / 64 := by omega
  have z5 : ((v : Int) / 64).toNat = v / 64 := by omega
  have z6 : (0 : Int) ≤ (v : Int) % 64 := by omega
  have z7 : ((v : Int) % 64).toNat = v % 64 := by omega
  obtain ⟨x, hx⟩ : ∃ x, ws[v / 64] = x := ⟨_, rfl⟩
  rw [hx] at d0
  have HX := Lib.hid hx
  clear hx
  go_enter Tryd.func50, Tryd.ntmps50
  go_wp2_with fail
  go_region
  have hxl : x < 18446744073709551616 := by rw [← HX.out]; exact HW.out _ (List.getElem_mem _)
  have ho : bits .or .u64 (x : Int) (IntKind.u64.wrap (2 ^ (v % 64))) = ((x ||| 2 ^ (v % 64) : Nat) : Int) := by
    rw [one_shl _ (by omega)]
    exact bits_or_u64_nat _ _ hxl (Nat.pow_lt_pow_right (n := 64) (by decide) (by omega))
  rw [ho]
  have h5 := heap_setCell_same _ sb (v / 64) _ _ (.int .u64 ((x ||| 2 ^ (v % 64) : Nat) : Int)) HS.out
  rw [wv_set] at h5
  have H5 := Lib.hid h5
  clear h5
  go_wp2_with fail
  exact bodyPost_end (v := .tuple #[]) (by simp [results, Tryd.results50, go_sem]) rfl ⟨rfl, _, by rw [List.length_set]; exact hl, set_lt HW.out (Nat.or_lt_two_pow (n := 64) hxl (Nat.pow_lt_pow_right (n := 64) (by decide) (by omega))), fun u _ => add_bits hv hj HX.out u, H5.out, fun n₀ hn => ((Below.refl _ _).setCell (p := ⟨sb, v / 64, none⟩) hn _).drew⟩

/-- the numbers of a list, ascending and once each -/
def ofV (l : List Int) : List Nat := (List.range 1001).filter fun v => l.contains (v : Int)
theorem contains_snoc (l : List Int) (u v : Nat) : (l ++ [(v : Int)]).contains (u : Int) = (l.contains (u : Int) || decide (u = v)) := by
  rw [Bool.eq_iff_iff, List.contains_iff_mem, List.mem_append, Bool.or_eq_true, List.contains_iff_mem, List.mem_singleton, decide_eq_true_eq, Int.natCast_inj]
def okB (v : Int) : Bool := decide (0 ≤ v ∧ v ≤ 1000)
/-- what the numbers of a list come out as: ranges, or an error -/
def OfOk (l : List Int) (w : World) (e : Ending) (w' : World) : Prop :=
  Below w.heap.size w w' ∧ (if l.all okB = true then ∃ v, e = .returned (.tuple #[v, .int .i64 0]) ∧ w'.ownsRow w.heap.size 60 2 v (addTo (ofV l)).length (pairCells (addTo (ofV l)).reverse) ∧ (v = .slice none 0 0 ↔ addTo (ofV l) = [])
    else e = .returned (.tuple #[.slice none 0 0, .int .i64 2]))
set_option maxHeartbeats 4000000 in
theorem Of_p_any (l : List Int) (A : Option Addr) (c : Nat) (w : World) (ha : Ints w A l) (hT : TabIn w) :
    Calls Tryd.prog 14 #[.slice A l.length c] w (OfOk l w) := by
  have hll := ha.1
  have HA := Lib.hid ha.2.2
  have HT := Lib.hid hT
  clear ha hT
  go_enter Tryd.func14, Tryd.ntmps14
  go_wp2_with fail
  go_loopw [6, 9] (fun _ i wr => ∃ (k : Nat) (ws : List Nat), k ≤ l.length ∧ i = .int .i64 k ∧ (l.take k).all okB = true ∧ ws.length = 16 ∧ (∀ x ∈ ws, x < 18446744073709551616) ∧ (∀ u : Nat, u < 1024 → bitAt ws u = (l.take k).contains (u : Int)) ∧ wr.heap[w.heap.size]? = some (.cells (wv ws) 66 (0, 0)) ∧ Below w.heap.size w wr) (fun _ i _ => l.length - (intOf i).toNat)
  case atStart =>
    refine ⟨0, zeros, Nat.zero_le _, rfl, rfl, rfl, by decide, fun v hv => ?_, alloc_new _ _, (Below.refl _ w).alloc (Nat.le_refl _) _⟩
    have : ∀ j, zeros.getD j 0 = 0 := fun j => by
      unfold zeros
      rw [List.getD_eq_getElem?_getD, List.getElem?_replicate]
      split <;> rfl
    unfold bitAt
    rw [this, Nat.zero_testBit]
    rfl
  case round =>
    obtain ⟨k, ws, hk, rfl, h0, h1, h2, h3, hs, hbw⟩ := hrel
    have hsl := lt_heap hs
    by_cases hlt : k < l.length
    · obtain ⟨b1, o1, rfl, hb1', g1⟩ := HA.out (by omega)
      have x1 := (hbw.cell (p := ⟨b1, o1 + k, none⟩) hb1').trans (g1 k hlt)
      have TK := Lib.hid (show l.take (k + 1) = l.take k ++ [l[k]] from List.take_succ_eq_append_getElem hlt)
      have HM := Lib.hid (List.getElem_mem hlt)
      clear g1
      generalize l[k] = x at *
      have z3 : (k : Int) < (l.length : Int) := by omega
      have z4 : (0 : Int) ≤ (k : Int) := by omega
      have HH := Lib.hid (And.intro h0 (And.intro h1 (And.intro h2 (And.intro h3 (And.intro hs hbw)))))
      clear h0 h3 HA
      by_cases hx : okB x = true
      · have hx2 : 0 ≤ x ∧ x ≤ 1000 := by simpa [okB] using hx
        obtain ⟨v, rfl⟩ : ∃ v : Nat, x = v := ⟨x.toNat, by omega⟩
        have AD := Lib.hid (fun wx (h : wx.heap[w.heap.size]? = some (.cells (wv ws) 66 (0, 0))) => add_any v (by omega) w.heap.size ws wx h1 h2 h)
        clear hs hbw h1 h2
        go_wp2_with (go_at_call 50; refine (AD.out _ HH.out.2.2.2.2.1).mono ?_; rintro e w1 ⟨rfl, us, l1, l2, l3, l4, l5⟩; have HL := Lib.hid (And.intro l1 (And.intro l2 (And.intro l3 (And.intro l4 l5)))); clear l1 l2 l3 l4 l5)
        go_roundw
        case rel =>
          obtain ⟨h0, h1, h2, h3, hs, hbw⟩ := HH.out
          obtain ⟨l1, l2, l3, l4, l5⟩ := HL.out
          refine ⟨k + 1, us, by omega, by go_num, by rw [TK.out, List.all_append, h0]; simpa using hx, l1, l2, fun u hu => ?_, l4, hbw.trans (l5 _ (Nat.le_refl _))⟩
          rw [l3 u hu, h3 u hu, TK.out]
          rw [contains_snoc]
        case measure => simp [intOf]; omega
      · have hx2 : x < 0 ∨ 1000 < x := by
          have : ¬ (0 ≤ x ∧ x ≤ 1000) := by simpa [okB] using hx
          omega
        have NO := Lib.hid (show l.all okB = false by
          rw [List.all_eq_false]
          exact ⟨x, HM.out, hx⟩)
        have HB := Lib.hid hbw
        clear hs hbw h1 h2 hx
        rcases hx2 with hx2 | hx2
        · go_wp2_with fail
          exact bodyPost_ret (v := .tuple #[.slice none 0 0, .int .i64 2]) (by simp [results, Tryd.results14, go_sem]) rfl (by unfold OfOk; refine ⟨HB.out, ?_⟩; rw [if_neg (by rw [NO.out]; exact Bool.false_ne_true)])
        · have hx3 : ¬ x < 0 := by omega
          go_wp2_with fail
          exact bodyPost_ret (v := .tuple #[.slice none 0 0, .int .i64 2]) (by simp [results, Tryd.results14, go_sem]) rfl (by unfold OfOk; refine ⟨HB.out, ?_⟩; rw [if_neg (by rw [NO.out]; exact Bool.false_ne_true)])
    · obtain rfl : k = l.length := by omega
      rw [List.take_of_length_le (Nat.le_refl _)] at h0 h3
      have cb : allBits 0 ws = ofV l := by
        rw [allBits_all ws h1 h2, range_cut fun v h4 h5 => by
          rw [h3 v h5]
          rw [← Bool.not_eq_true, List.contains_iff_mem]
          intro hm
          have := List.all_eq_true.1 h0 _ hm
          simp only [okB, decide_eq_true_eq] at this
          omega]
        unfold ofV
        exact List.filter_congr fun v hv => h3 v (by have := List.mem_range.1 hv; omega)
      have RG := Lib.hid (callsIn_wide.1 (ranges_in 4 (Nat.le_refl _) w.heap.size 0 ws wr (by omega) ⟨h1, h2, fun j hj => by
        have := wv_get hj
        simp [World.cell?, hs, this]⟩ (HT.out.below hbw HT.out.lt)))
      rw [cb] at RG
      have HBW := Lib.hid hbw
      have H0 := Lib.hid h0
      clear hbw h0 h1 h2 h3 hs cb HA
      go_wp2_with (go_at_call 51; refine RG.out.mono ?_; rintro e wz ⟨v, rfl, ho, hn, hb⟩; have HO := Lib.hid ho; have HN := Lib.hid hn; have HZ := Lib.hid (HBW.out.trans (hb.mono HBW.out.size)); clear ho hn hb)
      exact bodyPost_ret (v := .tuple #[v, .int .i64 0]) (by simp [results, Tryd.results14, go_sem]) rfl (by unfold OfOk; refine ⟨HZ.out, ?_⟩; rw [if_pos H0.out]; exact ⟨v, rfl, ownsRow_lower HBW.out.size HO.out, HN.out⟩)
end Go.Proofs.YtlhfbhkfmkcnjaaDoor
