/-
  The program's list of a domain's numbers.
-/
import Derived.Test.YtlhfbhkfmkcnjaaDoorDsN
namespace Go.Proofs.YtlhfbhkfmkcnjaaDoor
open Go Go.RowKit Go.Shelf Go.Ev

attribute [local go_sem] Oper.semAt_some

def numCells (l : List Nat) : List Value := l.map fun (x : Nat) => Value.int .i64 (x : Int)
theorem numCells_snoc (l : List Nat) (x : Nat) : numCells (l ++ [x]) = numCells l ++ [.int .i64 x] := by simp [numCells]
theorem numCells_len (l : List Nat) : (numCells l).length = l.length := by simp [numCells]
set_option maxRecDepth 100000 in
set_option maxHeartbeats 4000000 in
theorem appendSeq_in (n : Nat) (hn : 4 ≤ n) (Bn sb so : Nat) (ws : List Nat) (w : World) (hBn : Bn < w.heap.size) (hsb : sb < w.heap.size) (hc : w.cell? ⟨Bn, 0, none⟩ = some (.pointer (some ⟨sb, so, none⟩))) (hW : WordsAt w sb so ws) (hT : TabIn w) :
    CallsIn Fence.wide n Tryd.prog 98 #[.slice none 0 0, .func (.func 99) #[] #[.pointer (some ⟨Bn, 0, none⟩)]] w fun e w' => ∃ G cap, e = .returned (.slice G (allBits 0 ws).length cap) ∧ w'.ownsRow w.heap.size 3 1 (.slice G (allBits 0 ws).length cap) (allBits 0 ws).length (numCells (allBits 0 ws)) ∧ Below w.heap.size w w' := by
  have h1 : 1 ≤ n := by omega
  obtain ⟨i0, hi, hz0, hz1, hz2⟩ := info_parts infoI
  have hab := allBits_len 0 ws
  rw [hW.1] at hab
  refine callsIn_of_wp_marks Tryd.func98 rfl trivial ?_ rfl
  simp only [Tryd.ntmps98, List.size_toArray, List.length_cons, List.length_nil, Nat.reduceAdd, Nat.reduceSub, Array.replicate_succ, Array.replicate_zero, List.push_toArray, List.append_toArray, List.nil_append, List.cons_append]
  gi_wp2
  have bO := Boxed.new w 23 (.slice none 0 0)
  have hB0 : Below w.heap.size w (w.alloc (.cells #[.slice none 0 0] 23)) := (Below.refl _ w).alloc (Nat.le_refl _) _
  refine wpIn_rangeFunc_ownG rfl h1 (gf := 99) (lb := #[.pointer (some ⟨Bn, 0, none⟩)]) rfl trivial (enters_of Tryd.func99 (by kernel_rfl) rfl)
    (all_stops (n - 1) (by omega) Bn w.heap.size sb so ws _ (by simp; omega) (by simp) hsb ((hB0.cell (p := ⟨Bn, 0, none⟩) hBn).trans hc) (hW.below hB0 hsb) (hT.below hB0 hT.lt)) belowK_t (belowK_b (by simp)) (Below.refl _ _) (fun _ => rfl)
    (fun pre W => (∃ v, Boxed W w.heap.size 23 v ∧ W.ownsRow w.heap.size 3 1 v (nums pre).length (numCells (nums pre)) ∧ (∃ G cap, v = .slice G (nums pre).length cap)) ∧ Below w.heap.size w W)
    (fun _ _ _ => False)
    (OwnFrom.and (Own.from (holdsRow_own w.heap.size w.heap.size 23 3 1 (fun pre => (nums pre).length) (fun pre => numCells (nums pre)) (fun pre v => ∃ G cap, v = .slice G (nums pre).length cap)) _) (ownFrom_below (Nat.le_refl _) (by simp)))
    (fun _ _ _ _ _ hs _ _ => hs)
    ⟨⟨_, bO, World.ownsRow_nil _ _ _ _, none, 0, rfl⟩, hB0⟩
    (fun x => { tmps := #[.slice none 0 0, .func (.func 99) #[] #[.pointer (some ⟨Bn, 0, none⟩)], .pointer (some ⟨w.heap.size, 0, none⟩), undef, .slice none 0 0, .int .i64 x.1, .func (.func 99) #[] #[.pointer (some ⟨Bn, 0, none⟩)], .int .i64 x.1, undef, undef, undef, undef, undef], defers := [] }) ?assign ?body ?done ?stop
  case assign =>
    intro l x W K hK
    gi_wp2
    exact hK
  case body =>
    rintro l pre ⟨x, hx⟩ W ⟨⟨v, hv, hrow, G, cap, rfl⟩, hB⟩ hlt
    have hc := hv.cell
    have hpl : (nums pre).length = pre.length := by simp [nums]
    have hns : nums (pre ++ [⟨x, hx⟩]) = nums pre ++ [x] := by simp [nums]
    have hx2 : (x : Int) < 1024 := by omega
    have HN := Lib.hid hns
    obtain ⟨Q, hQ⟩ : ∃ Q, nums pre = Q := ⟨_, rfl⟩
    rw [hQ] at hrow hpl hv hc HN
    have hlq := numCells_len Q
    rw [hpl] at hrow hv hc hlq
    have HQ := Lib.hid hpl
    have HL := Lib.hid hlq
    have HR := Lib.hid hrow
    clear hQ hns hrow hpl hlq
    repeat ((fail_if_success gi_at_builtin); gi_step)
    gi_at_builtin
    refine wpListIn_append_own _ rfl _ _ 23 rfl w.heap.size 3 i0 (.int .i64 0) 1 8 Tryd.underlying23 hi hz0 hz1 hz2 rfl (by decide) _ _ _ rfl (HR.out.alloc _) ⟨W.heap.size, 0, none⟩ 1 1 [.int .i64 x] rfl rfl ?c1 ?c2 ?c3 ?c4 ?c5 ?_
    case c1 =>
      intro j z hj
      match j, hj with
      | 0, hj => simp at hj; subst hj; simp [Addr.add]
    case c2 => intro z hz; simp at hz; subst hz; rfl
    case c3 => unfold maxLen; omega
    case c4 => omega
    case c5 => have := hB.size; simp; omega
    intro v' w1 hown' hgrow _
    obtain ⟨g', cap', rfl⟩ := ownsRow_succ hown'
    obtain ⟨hv1, hv2, hr2, hk2, hb2⟩ := hv.appended (by decide) HR.out hB.size (Nat.le_refl _) hown' hgrow
    have hc1 := hv1.cell
    have hf1 := hv1.frozen
    gi_wp2
    exact ⟨hk2.from _, hb2, ⟨_, hv2, by rw [HN.out, numCells_snoc, List.length_append, HQ.out]; simpa using hr2, _, _, by rw [HN.out, List.length_append, HQ.out]; rfl⟩, hB.trans hb2⟩
  case done =>
    rintro D ys W hD hys ⟨⟨v, hv, hrow, G, cap, rfl⟩, hB⟩ hK
    have hc := hv.cell
    rw [show nums ys = allBits 0 ws from hys] at hrow hv hc
    gi_wp2
    refine ⟨by simp, .inl ⟨_, _, rfl, run_takeDeferred hK, ?_⟩⟩
    exact ⟨_, results_tmp rfl _ _ _, G, cap, rfl, ownsRow_putObj hrow _ hK rfl, hB.trans (belowK_b (w := w) (Nat.le_refl _) W D _ _ (by simp at hD; omega) hK rfl rfl)⟩
  case stop =>
    rintro D c pre W _ _ h _
    exact h.elim
end Go.Proofs.YtlhfbhkfmkcnjaaDoor
