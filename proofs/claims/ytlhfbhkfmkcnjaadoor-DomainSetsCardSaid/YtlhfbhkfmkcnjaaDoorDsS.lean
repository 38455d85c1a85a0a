/-
  The domain of any numbers: the document's.
-/
import Derived.Test.YtlhfbhkfmkcnjaaDoorDsR
namespace Go.Proofs.YtlhfbhkfmkcnjaaDoor
open Go Go.RowKit Go.Shelf Go.Ev

theorem ofV_upTo (l : List Int) : addTo (ofV l) = upTo (inL l) 1001 := rfl
set_option maxRecDepth 100000 in
set_option maxHeartbeats 4000000 in
theorem Of_r_any (l : List Int) (A : Option Addr) (c : Nat) (w : World) (ha : Ints w A l) :
    Calls Tryd.prog 15 #[.slice A l.length c] w (OfOk l w) := by
  have hll := ha.1
  have HA := Lib.hid ha.2.2
  have z69 := zA
  clear ha
  go_enter Tryd.func15, Tryd.ntmps15
  go_wp2_with fail
  go_loopw [5] (fun i wr => ∃ (k : Nat), k ≤ l.length ∧ i = .int .i64 k ∧ (l.take k).all okB = true ∧ SetAt wr w.heap.size (inL (l.take k)) ∧ Below w.heap.size w wr) (fun i _ => l.length - (intOf i).toNat)
  case atStart => exact ⟨0, Nat.zero_le _, rfl, rfl, alloc_new _ _, (Below.refl _ w).alloc (Nat.le_refl _) _⟩
  case round =>
    obtain ⟨k, hk, rfl, h0, hs, hbw⟩ := hrel
    by_cases hlt : k < l.length
    · obtain ⟨b1, o1, rfl, hb1', g1⟩ := HA.out (by omega)
      have x1 := (hbw.cell (p := ⟨b1, o1 + k, none⟩) hb1').trans (g1 k hlt)
      have TK := Lib.hid (show l.take (k + 1) = l.take k ++ [l[k]] from List.take_succ_eq_append_getElem hlt)
      have HM := Lib.hid (List.getElem_mem hlt)
      clear g1
      generalize l[k] = x at *
      have z3 : (k : Int) < (l.length : Int) := by omega
      have z4 : (0 : Int) ≤ (k : Int) := by omega
      have HH := Lib.hid (And.intro h0 (And.intro hs hbw))
      clear HA
      by_cases hx : okB x = true
      · have hx2 : 0 ≤ x ∧ x ≤ 1000 := by simpa [okB] using hx
        obtain ⟨v, rfl⟩ : ∃ v : Nat, x = v := ⟨x.toNat, by omega⟩
        have y1 := hs.cell (v := v) (by omega)
        have y2 := hs.free v
        have n1 : ¬ (v : Int) < 0 := by omega
        have n2 : ¬ (v : Int) > 1000 := by omega
        have n3 : (v : Int) < 1001 := by omega
        have n4 : (0 : Int) ≤ (v : Int) := by omega
        clear h0 hs hbw hx hx2
        go_wp2_with fail
        go_roundw
        case rel =>
          obtain ⟨h0, hs, hbw⟩ := HH.out
          have hv : okB v = true := by simp [okB]; omega
          exact ⟨k + 1, by omega, by go_num, by rw [TK.out, List.all_append, h0]; simpa using hv, by rw [TK.out, ← inL_snoc]; exact hs.put (by omega) true, hbw.setCell (p := ⟨w.heap.size, v, none⟩) (Nat.le_refl _) _⟩
        case measure => simp [intOf]; omega
      · have hx2 : x < 0 ∨ 1000 < x := by
          have : ¬ (0 ≤ x ∧ x ≤ 1000) := by simpa [okB] using hx
          omega
        have NO := Lib.hid (show l.all okB = false by
          rw [List.all_eq_false]
          exact ⟨x, HM.out, hx⟩)
        have HB := Lib.hid hbw
        clear h0 hs hbw hx
        rcases hx2 with hx2 | hx2
        · go_wp2_with fail
          exact bodyPost_ret (v := .tuple #[.slice none 0 0, .int .i64 2]) (by simp [results, Tryd.results15, go_sem]) rfl (by unfold OfOk; refine ⟨HB.out, ?_⟩; rw [if_neg (by rw [NO.out]; exact Bool.false_ne_true)])
        · have hx3 : ¬ x < 0 := by omega
          go_wp2_with fail
          exact bodyPost_ret (v := .tuple #[.slice none 0 0, .int .i64 2]) (by simp [results, Tryd.results15, go_sem]) rfl (by unfold OfOk; refine ⟨HB.out, ?_⟩; rw [if_neg (by rw [NO.out]; exact Bool.false_ne_true)])
    · obtain rfl : k = l.length := by omega
      rw [List.take_of_length_le (Nat.le_refl _)] at h0 hs
      have HB := Lib.hid hbw
      have H0 := Lib.hid h0
      have FR := Lib.hid (From_any (inL l) wr)
      clear hbw h0 HA z69
      repeat (first | (refine wp_load_set (Operand.tmp 4) hs rfl rfl ?_) | (go_at_call 52; refine FR.out.mono ?_; rintro e wz ⟨v, rfl, ho, hn, hb⟩; have HO := Lib.hid ho; have HN := Lib.hid hn; have HZ := Lib.hid (HB.out.trans (hb.mono HB.out.size)); clear ho hn hb) | go_step)
      go_wp2_with fail
      exact bodyPost_ret (v := .tuple #[v, .int .i64 0]) (by simp [results, Tryd.results15, go_sem]) rfl (by unfold OfOk; refine ⟨HZ.out, ?_⟩; rw [if_pos H0.out]; exact ⟨v, rfl, ownsRow_lower HB.out.size HO.out, HN.out⟩)
end Go.Proofs.YtlhfbhkfmkcnjaaDoor
