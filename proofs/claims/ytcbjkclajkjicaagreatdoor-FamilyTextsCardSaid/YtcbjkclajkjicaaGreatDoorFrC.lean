/-
  A family's sets as lists: what the program hands out.
-/
import Derived.Test.YtcbjkclajkjicaaGreatDoorFaC
import Derived.Test.YtcbjkclajkjicaaGreatDoorDsZ
namespace Go.Proofs.YtcbjkclajkjicaaGreatDoor
open Go Go.RowKit Go.Shelf Go.Ev

attribute [local go_sem] Oper.semAt_some

def natCells (l : List Nat) : List Value := l.map fun (x : Nat) => Value.int .i64 (x : Int)
theorem natCells_snoc (l : List Nat) (x : Nat) : natCells (l ++ [x]) = natCells l ++ [.int .i64 x] := by simp [natCells]
theorem natCells_len (l : List Nat) : (natCells l).length = l.length := by simp [natCells]
theorem below_putObj {n₀ : Nat} (X : World) (k : Nat) (o : Obj) (h : n₀ ≤ k) : Below n₀ X (X.putObj k o) := ⟨rfl, rfl, rfl, by simp, fun i hi => World.putObj_heap_other (by omega)⟩
theorem ownStep.grown {Bn : Nat} {X Y : World} (h : ownStep Bn X Y) : X.grownBy Y (some Bn) := ⟨h.1.os, h.1.tape, h.1.output, h.1.size, fun k _ hk => h.2.2 k (fun e => hk (by rw [e]))⟩
theorem bitsOf_le : ∀ (f i x : Nat), (bitsOf f i x).length ≤ f
  | 0, _, _ => Nat.le_refl _
  | f + 1, i, x => by
    unfold bitsOf
    split
    · simp
    · split
      · have := bitsOf_le f (i + 1) (x / 2); simp; omega
      · have := bitsOf_le f (i + 1) (x / 2); omega
/-- all that lay lies as it lay, but for one block -/
def KeptBut (Bn : Nat) (w W : World) : Prop := Below Bn w W ∧ ∀ k, k < w.heap.size → k ≠ Bn → W.heap[k]? = w.heap[k]?
theorem KeptBut.refl (Bn : Nat) (w : World) : KeptBut Bn w w := ⟨Below.refl _ _, fun _ _ _ => rfl⟩
theorem KeptBut.of_below {Bn : Nat} {w W : World} (h : Below w.heap.size w W) (hB : Bn ≤ w.heap.size) : KeptBut Bn w W := ⟨h.mono hB, fun k hk _ => h.block k hk⟩
theorem KeptBut.trans {Bn : Nat} {w X Y : World} (h : KeptBut Bn w X) (k : KeptBut Bn X Y) : KeptBut Bn w Y := ⟨h.1.trans k.1, fun i hi hn => (k.2 i (Nat.lt_of_lt_of_le hi h.1.size) hn).trans (h.2 i hi hn)⟩
theorem KeptBut.own {Bn : Nat} {X Y : World} (h : ownStep Bn X Y) : KeptBut Bn X Y := ⟨h.1, fun k _ hn => h.2.2 k hn⟩
theorem KeptBut.putObj {Bn : Nat} {w X : World} (h : KeptBut Bn w X) (hB : Bn ≤ w.heap.size) (k : Nat) (o : Obj) (hk : w.heap.size ≤ k) : KeptBut Bn w (X.putObj k o) := ⟨h.1.trans (below_putObj X k o (by omega)), fun i hi hn => (World.putObj_heap_other (by omega)).trans (h.2 i hi hn)⟩
theorem KeptBut.belowBy {Bn n₀ : Nat} {w X Y : World} (h : KeptBut Bn w X) (k : Below n₀ X Y) (hn : w.heap.size ≤ n₀) (hB : Bn ≤ w.heap.size) : KeptBut Bn w Y := ⟨h.1.trans (k.mono (by omega)), fun i hi hne => (k.block i (by omega)).trans (h.2 i hi hne)⟩
def bitNums (pre : List Bit) : List Nat := pre.map Fin.val
set_option maxRecDepth 100000 in
set_option maxHeartbeats 4000000 in
theorem fappend_in (n : Nat) (hn : 4 ≤ n) (Bn x0 : Nat) (w : World) (hB : 1 < Bn) (hBn : Bn < w.heap.size) (hx0 : x0 < 18446744073709551616) (hW : Word w Bn x0) (hT : TabIn w) :
    CallsIn Fence.wide n Tryz.prog 83 #[.slice none 0 0, .func (.func 84) #[] #[.pointer (some ⟨Bn, 0, none⟩)]] w fun e w' => ∃ G cap, e = .returned (.slice G (bitsOf 64 0 x0).length cap) ∧ w'.ownsRow w.heap.size 3 1 (.slice G (bitsOf 64 0 x0).length cap) (bitsOf 64 0 x0).length (natCells (bitsOf 64 0 x0)) ∧ KeptBut Bn w w' := by
  have h1 : 1 ≤ n := by omega
  obtain ⟨i0, hi, hz0, hz1, hz2⟩ := info_parts infoI
  have hab := bitsOf_le 64 0 x0
  refine callsIn_of_wp_marks Tryz.func83 rfl trivial ?_ rfl
  simp only [Tryz.ntmps83, List.size_toArray, List.length_cons, List.length_nil, Nat.reduceAdd, Nat.reduceSub, Array.replicate_succ, Array.replicate_zero, List.push_toArray, List.append_toArray, List.nil_append, List.cons_append]
  gi_wp2
  have bO := Boxed.new w 22 (.slice none 0 0)
  have hB0 : Below w.heap.size w (w.alloc (.cells #[.slice none 0 0] 22)) := (Below.refl _ w).alloc (Nat.le_refl _) _
  refine range_all rfl h1 (gf := 84) (lb := #[.pointer (some ⟨Bn, 0, none⟩)]) rfl trivial (enters_of Tryz.func84 (by kernel_rfl) rfl)
    (fun _ => rfl) (fall1_goes (n - 1) (by omega) Bn x0 hB hx0)
    (fun X Y h k hk => h.2.2 k (by simp at hk; omega)) (fun h k => h.trans k) (fun X k o hk => below_putObj X k o (by simp at hk; omega))
    (fun pre W => (∃ v, Boxed W w.heap.size 22 v ∧ W.ownsRow w.heap.size 3 1 v (bitNums pre).length (natCells (bitNums pre)) ∧ (∃ G cap, v = .slice G (bitNums pre).length cap)) ∧ KeptBut Bn w W)
    ?hIs ?hIb ?hI0
    (fun x => { tmps := #[.slice none 0 0, .func (.func 84) #[] #[.pointer (some ⟨Bn, 0, none⟩)], .pointer (some ⟨w.heap.size, 0, none⟩), undef, .slice none 0 0, .int .i64 x.1, .func (.func 84) #[] #[.pointer (some ⟨Bn, 0, none⟩)], .int .i64 x.1, undef, undef, undef, undef, undef], defers := [] }) ?assign ?body ?done
  case hIs =>
    rintro pre X Y ⟨⟨v, hv, hr, hs⟩, hb⟩ h
    refine ⟨⟨v, (h.2.2 _ (by omega)).trans hv, hr.kept h.grown (.inr fun e => ?_), hs⟩, hb.trans (KeptBut.own h)⟩
    have := (hr.lt _ e).1
    omega
  case hIb =>
    rintro pre X k r o ⟨⟨v, hv, hr, hs⟩, hb⟩ hk hx hc
    exact ⟨⟨v, (World.putObj_heap_other (by simp at hk; omega)).trans hv, ownsRow_putObj hr _ hx hc, hs⟩, hb.putObj (Nat.le_of_lt hBn) k o (by simp at hk; omega)⟩
  case hI0 =>
    intro o1 o2 _ _
    have b2 : Below w.heap.size w (((w.alloc (.cells #[.slice none 0 0] 22)).alloc o1).alloc o2) := (hB0.alloc (by simp) _).alloc (by simp; omega) _
    exact ⟨⟨⟨_, (bO.alloc _).alloc _, World.ownsRow_nil _ _ _ _, none, 0, rfl⟩, KeptBut.of_below b2 (Nat.le_of_lt hBn)⟩, (b2.block Bn hBn).trans hW, hT.below b2 hT.lt⟩
  case assign =>
    intro l x W K hK
    gi_wp2
    exact hK
  case body =>
    rintro l pre ⟨x, hx⟩ W ⟨⟨v, hv, hrow, G, cap, rfl⟩, hB⟩ hlt
    have hc := hv.cell
    have hpl : (bitNums pre).length = pre.length := by simp [bitNums]
    have hns : bitNums (pre ++ [⟨x, hx⟩]) = bitNums pre ++ [x] := by simp [bitNums]
    have hx2 : (x : Int) < 64 := by omega
    have HN := Lib.hid hns
    have hwl := hv.lt
    obtain ⟨Q, hQ⟩ : ∃ Q, bitNums pre = Q := ⟨_, rfl⟩
    rw [hQ] at hrow hpl hv hc HN
    have hlq := natCells_len Q
    rw [hpl] at hrow hv hc hlq
    have HQ := Lib.hid hpl
    have HL := Lib.hid hlq
    have HR := Lib.hid hrow
    clear hQ hns hrow hpl hlq
    repeat ((fail_if_success gi_at_builtin); gi_step)
    gi_at_builtin
    refine wpListIn_append_own _ rfl _ _ 22 rfl w.heap.size 3 i0 (.int .i64 0) 1 8 Tryz.underlying22 hi hz0 hz1 hz2 rfl (by decide) _ _ _ rfl (HR.out.alloc _) ⟨W.heap.size, 0, none⟩ 1 1 [.int .i64 x] rfl rfl ?c1 ?c2 ?c3 ?c4 ?c5 ?_
    case c1 =>
      intro j z hj
      match j, hj with
      | 0, hj => simp at hj; subst hj; simp [Addr.add]
    case c2 => intro z hz; simp at hz; subst hz; rfl
    case c3 => unfold maxLen; omega
    case c4 => omega
    case c5 => simp; omega
    intro v' w1 hown' hgrow _
    obtain ⟨g', cap', rfl⟩ := ownsRow_succ hown'
    obtain ⟨hv1, hv2, hr2, hk2, hb2⟩ := hv.appended (by decide) HR.out (Nat.le_of_lt hwl) (Nat.le_refl _) hown' hgrow
    have hc1 := hv1.cell
    have hf1 := hv1.frozen
    gi_wp2
    exact ⟨hb2.mono (by omega), ⟨_, hv2, by rw [HN.out, natCells_snoc, List.length_append, HQ.out]; simpa using hr2, _, _, by rw [HN.out, List.length_append, HQ.out]; rfl⟩, hB.belowBy hb2 (Nat.le_refl _) (Nat.le_of_lt hBn)⟩
  case done =>
    rintro D ys W hD hys ⟨⟨v, hv, hrow, G, cap, rfl⟩, hB⟩ hK
    have hc := hv.cell
    rw [show bitNums ys = bitsOf 64 0 x0 from hys] at hrow hv hc
    gi_wp2
    refine ⟨by simp, .inl ⟨_, _, rfl, run_takeDeferred hK, ?_⟩⟩
    exact ⟨_, results_tmp rfl _ _ _, G, cap, rfl, ownsRow_putObj hrow _ hK rfl, hB.putObj (Nat.le_of_lt hBn) D _ (by simp at hD; omega)⟩
theorem fcollect_any (Bn x0 : Nat) (w : World) (hB : 1 < Bn) (hBn : Bn < w.heap.size) (hx0 : x0 < 18446744073709551616) (hW : Word w Bn x0) (hT : TabIn w) :
    Calls Tryz.prog 53 #[.func (.func 84) #[] #[.pointer (some ⟨Bn, 0, none⟩)]] w fun e w' => ∃ G cap, e = .returned (.slice G (bitsOf 64 0 x0).length cap) ∧ w'.ownsRow w.heap.size 3 1 (.slice G (bitsOf 64 0 x0).length cap) (bitsOf 64 0 x0).length (natCells (bitsOf 64 0 x0)) ∧ KeptBut Bn w w' := by
  have AS := Lib.hid (callsIn_wide.1 (fappend_in 4 (Nat.le_refl _) Bn x0 w hB hBn hx0 hW hT))
  clear hW hT
  generalize natCells (bitsOf 64 0 x0) = C at *
  generalize (bitsOf 64 0 x0).length = n at *
  go_enter Tryz.func53, Tryz.ntmps53
  go_wp2_with (go_at_call 83; refine AS.out.mono ?_; rintro e wz ⟨G, cap, rfl, ho, hb⟩; have HO := Lib.hid ho; have HB := Lib.hid hb; clear ho hb)
  go_ret
  exact ⟨G, cap, rfl, HO.out, HB.out⟩
theorem fall_any (x0 : Nat) (w : World) : Calls Tryz.prog 54 #[.int .u64 x0] w fun e w' => ∃ B, e = .returned (.func (.func 84) #[] #[.pointer (some ⟨B, 0, none⟩)]) ∧ Word w' B x0 ∧ w.heap.size ≤ B ∧ B < w'.heap.size ∧ Below w.heap.size w w' := by
  go_enter Tryz.func54, Tryz.ntmps54
  go_wp2_with fail
  go_ret
  exact ⟨w.heap.size, rfl, heap_alloc_new _ _, Nat.le_refl _, by simp, (Below.refl _ _).alloc (Nat.le_refl _) _⟩
end Go.Proofs.YtcbjkclajkjicaaGreatDoor
