/-
  Whether a propagator holds: the program's own answer is the document's.
-/
import Derived.Test.YtpejolnjnkcolaaDoorHpJ
import Derived.Test.YtpejolnjnkcolaaDoorDmM
namespace Go.Proofs.YtpejolnjnkcolaaDoor
open Go Go.RowKit Go.Ev

theorem pl_of {w : World} {A D : Option Addr} {vs us : List Int} (ha : Ints w A vs) (hd : Ints w D us) (h : ∀ j (hj : j < vs.length), 0 ≤ vs[j] ∧ vs[j] < us.length) : Pl w A D vs us := ⟨ha, hd, h⟩
theorem holdsP_sum (x : ByteArray) (vs cs us : List Int) (n : Int) (A B D : Option Addr) (c1 c2 c3 : Nat) (w : World) (hx : x.toList = [115, 117, 109]) (ha : Ints w A vs) (hb : Ints w B cs) (hd : Ints w D us) (hcc : cs.length ≤ c2) (hn : -9223372036854775808 ≤ n ∧ n ≤ 9223372036854775807) :
    Calls Tryd.prog 25 #[.agg #[.string x, .slice A vs.length c1, .slice B cs.length c2, .int .i64 n], .slice D us.length c3] w fun e w' => e = .returned (.bool (vpCore vs.length vs.length vs.length true false true vs cs n us.length && decide (dot cs (pick vs us) = n))) ∧ Below w.heap.size w w' := by
  refine Holds_of _ _ us.length x A B D vs.length cs.length c1 c2 c3 n w _ _ rfl rfl (fun w' hbw => ?_) (fun hv w' hbw => ?_)
  · rw [← vp_same_sum vs cs n us.length]
    exact valid_any _ vs cs n us.length x A B c1 c2 w' _ rfl (ha.over hbw) (hb.over hbw) (fun w2 hb2 => by
      have hbw := hbw.trans (hb2.mono hbw.size)
      have := fun w' (hbw : Below w.heap.size w w') => fits_sum x vs cs n A B c1 c2 w' hx (hb.over hbw)
      exact this w2 hbw)
  · obtain ⟨⟨t1, t2, t3, t4, t5, t6⟩, vr, cr, nr⟩ := vp_facts hv
    exact hold_sum x vs cs us n A B D c1 c2 c3 w' hx (pl_of (ha.over hbw) (hd.over hbw) vr) (hb.over hbw) hn (by omega) (Nat.zero_le _) (by omega) cr
theorem holdsP_most (x : ByteArray) (vs cs us : List Int) (n : Int) (A B D : Option Addr) (c1 c2 c3 : Nat) (w : World) (hx : x.toList = [109, 111, 115, 116]) (ha : Ints w A vs) (hb : Ints w B cs) (hd : Ints w D us) (hcc : cs.length ≤ c2) (hn : -9223372036854775808 ≤ n ∧ n ≤ 9223372036854775807) :
    Calls Tryd.prog 25 #[.agg #[.string x, .slice A vs.length c1, .slice B cs.length c2, .int .i64 n], .slice D us.length c3] w fun e w' => e = .returned (.bool (vpCore vs.length vs.length vs.length true false true vs cs n us.length && decide (dot cs (pick vs us) ≤ n))) ∧ Below w.heap.size w w' := by
  refine Holds_of _ _ us.length x A B D vs.length cs.length c1 c2 c3 n w _ _ rfl rfl (fun w' hbw => ?_) (fun hv w' hbw => ?_)
  · rw [← vp_same_most vs cs n us.length]
    exact valid_any _ vs cs n us.length x A B c1 c2 w' _ rfl (ha.over hbw) (hb.over hbw) (fun w2 hb2 => by
      have hbw := hbw.trans (hb2.mono hbw.size)
      have := fun w' (hbw : Below w.heap.size w w') => fits_most x vs cs n A B c1 c2 w' hx (hb.over hbw)
      exact this w2 hbw)
  · obtain ⟨⟨t1, t2, t3, t4, t5, t6⟩, vr, cr, nr⟩ := vp_facts hv
    exact hold_most x vs cs us n A B D c1 c2 c3 w' hx (pl_of (ha.over hbw) (hd.over hbw) vr) (hb.over hbw) hn (by omega) (Nat.zero_le _) (by omega) cr
theorem holdsP_distinct (x : ByteArray) (vs cs us : List Int) (n : Int) (A B D : Option Addr) (c1 c2 c3 : Nat) (w : World) (hx : x.toList = [100, 105, 115, 116, 105, 110, 99, 116]) (ha : Ints w A vs) (hb : Ints w B cs) (hd : Ints w D us) (hcc : cs.length ≤ c2) (hn : -9223372036854775808 ≤ n ∧ n ≤ 9223372036854775807) :
    Calls Tryd.prog 25 #[.agg #[.string x, .slice A vs.length c1, .slice B cs.length c2, .int .i64 n], .slice D us.length c3] w fun e w' => e = .returned (.bool (vpCore vs.length 0 0 false false false vs cs n us.length && decide (pick vs us).Nodup)) ∧ Below w.heap.size w w' := by
  refine Holds_of _ _ us.length x A B D vs.length cs.length c1 c2 c3 n w _ _ rfl rfl (fun w' hbw => ?_) (fun hv w' hbw => ?_)
  · rw [← vp_same_distinct vs cs n us.length]
    exact valid_any _ vs cs n us.length x A B c1 c2 w' _ rfl (ha.over hbw) (hb.over hbw) (fun w2 hb2 => by
      have hbw := hbw.trans (hb2.mono hbw.size)
      have := fun w' (hbw : Below w.heap.size w w') => fits_distinct x vs cs n A B c1 c2 w' hx (hb.over hbw)
      exact this w2 hbw)
  · obtain ⟨⟨t1, t2, t3, t4, t5, t6⟩, vr, cr, nr⟩ := vp_facts hv
    exact hold_distinct x vs cs us n A B D c1 c2 c3 w' hx (pl_of (ha.over hbw) (hd.over hbw) vr) (hb.over hbw) hn (by omega) (Nat.zero_le _)
theorem holdsP_unlike (x : ByteArray) (vs cs us : List Int) (n : Int) (A B D : Option Addr) (c1 c2 c3 : Nat) (w : World) (hx : x.toList = [117, 110, 108, 105, 107, 101]) (ha : Ints w A vs) (hb : Ints w B cs) (hd : Ints w D us) (hcc : cs.length ≤ c2) (hn : -9223372036854775808 ≤ n ∧ n ≤ 9223372036854775807) :
    Calls Tryd.prog 25 #[.agg #[.string x, .slice A vs.length c1, .slice B cs.length c2, .int .i64 n], .slice D us.length c3] w fun e w' => e = .returned (.bool (vpCore 2 0 0 false false true vs cs n us.length && decide (nthI (pick vs us) 1 - nthI (pick vs us) 0 ≠ n))) ∧ Below w.heap.size w w' := by
  refine Holds_of _ _ us.length x A B D vs.length cs.length c1 c2 c3 n w _ _ rfl rfl (fun w' hbw => ?_) (fun hv w' hbw => ?_)
  · rw [← vp_same_unlike vs cs n us.length]
    exact valid_any _ vs cs n us.length x A B c1 c2 w' _ rfl (ha.over hbw) (hb.over hbw) (fun w2 hb2 => by
      have hbw := hbw.trans (hb2.mono hbw.size)
      have := fun w' (hbw : Below w.heap.size w w') => fits_unlike x vs cs n A B c1 c2 w' hx (hb.over hbw)
      exact this w2 hbw)
  · obtain ⟨⟨t1, t2, t3, t4, t5, t6⟩, vr, cr, nr⟩ := vp_facts hv
    exact hold_unlike x vs cs us n A B D c1 c2 c3 w' hx (pl_of (ha.over hbw) (hd.over hbw) vr) (hb.over hbw) hn (by omega) (by omega)
theorem holdsP_product (x : ByteArray) (vs cs us : List Int) (n : Int) (A B D : Option Addr) (c1 c2 c3 : Nat) (w : World) (hx : x.toList = [112, 114, 111, 100, 117, 99, 116]) (ha : Ints w A vs) (hb : Ints w B cs) (hd : Ints w D us) (hcc : cs.length ≤ c2) (hn : -9223372036854775808 ≤ n ∧ n ≤ 9223372036854775807) :
    Calls Tryd.prog 25 #[.agg #[.string x, .slice A vs.length c1, .slice B cs.length c2, .int .i64 n], .slice D us.length c3] w fun e w' => e = .returned (.bool (vpCore 3 0 0 false false false vs cs n us.length && decide (nthI (pick vs us) 0 * nthI (pick vs us) 1 = nthI (pick vs us) 2))) ∧ Below w.heap.size w w' := by
  refine Holds_of _ _ us.length x A B D vs.length cs.length c1 c2 c3 n w _ _ rfl rfl (fun w' hbw => ?_) (fun hv w' hbw => ?_)
  · rw [← vp_same_product vs cs n us.length]
    exact valid_any _ vs cs n us.length x A B c1 c2 w' _ rfl (ha.over hbw) (hb.over hbw) (fun w2 hb2 => by
      have hbw := hbw.trans (hb2.mono hbw.size)
      have := fun w' (hbw : Below w.heap.size w w') => fits_product x vs cs n A B c1 c2 w' hx (hb.over hbw)
      exact this w2 hbw)
  · obtain ⟨⟨t1, t2, t3, t4, t5, t6⟩, vr, cr, nr⟩ := vp_facts hv
    exact hold_product x vs cs us n A B D c1 c2 c3 w' hx (pl_of (ha.over hbw) (hd.over hbw) vr) (hb.over hbw) hn (by omega) (by omega)
theorem holdsP_max (x : ByteArray) (vs cs us : List Int) (n : Int) (A B D : Option Addr) (c1 c2 c3 : Nat) (w : World) (hx : x.toList = [109, 97, 120]) (ha : Ints w A vs) (hb : Ints w B cs) (hd : Ints w D us) (hcc : cs.length ≤ c2) (hn : -9223372036854775808 ≤ n ∧ n ≤ 9223372036854775807) :
    Calls Tryd.prog 25 #[.agg #[.string x, .slice A vs.length c1, .slice B cs.length c2, .int .i64 n], .slice D us.length c3] w fun e w' => e = .returned (.bool (vpCore 3 0 0 false false false vs cs n us.length && decide (nthI (pick vs us) 2 = max (nthI (pick vs us) 0) (nthI (pick vs us) 1)))) ∧ Below w.heap.size w w' := by
  refine Holds_of _ _ us.length x A B D vs.length cs.length c1 c2 c3 n w _ _ rfl rfl (fun w' hbw => ?_) (fun hv w' hbw => ?_)
  · rw [← vp_same_max vs cs n us.length]
    exact valid_any _ vs cs n us.length x A B c1 c2 w' _ rfl (ha.over hbw) (hb.over hbw) (fun w2 hb2 => by
      have hbw := hbw.trans (hb2.mono hbw.size)
      have := fun w' (hbw : Below w.heap.size w w') => fits_max x vs cs n A B c1 c2 w' hx (hb.over hbw)
      exact this w2 hbw)
  · obtain ⟨⟨t1, t2, t3, t4, t5, t6⟩, vr, cr, nr⟩ := vp_facts hv
    exact hold_max x vs cs us n A B D c1 c2 c3 w' hx (pl_of (ha.over hbw) (hd.over hbw) vr) (by omega)
theorem holdsP_reify (x : ByteArray) (vs cs us : List Int) (n : Int) (A B D : Option Addr) (c1 c2 c3 : Nat) (w : World) (hx : x.toList = [114, 101, 105, 102, 121]) (ha : Ints w A vs) (hb : Ints w B cs) (hd : Ints w D us) (hcc : cs.length ≤ c2) (hn : -9223372036854775808 ≤ n ∧ n ≤ 9223372036854775807) :
    Calls Tryd.prog 25 #[.agg #[.string x, .slice A vs.length c1, .slice B cs.length c2, .int .i64 n], .slice D us.length c3] w fun e w' => e = .returned (.bool (vpCore 3 0 0 false false true vs cs n us.length && (decide (nthI (pick vs us) 0 = 1) && decide (nthI (pick vs us) 1 - nthI (pick vs us) 2 ≤ n) || decide (nthI (pick vs us) 0 = 0) && !decide (nthI (pick vs us) 1 - nthI (pick vs us) 2 ≤ n)))) ∧ Below w.heap.size w w' := by
  refine Holds_of _ _ us.length x A B D vs.length cs.length c1 c2 c3 n w _ _ rfl rfl (fun w' hbw => ?_) (fun hv w' hbw => ?_)
  · rw [← vp_same_reify vs cs n us.length]
    exact valid_any _ vs cs n us.length x A B c1 c2 w' _ rfl (ha.over hbw) (hb.over hbw) (fun w2 hb2 => by
      have hbw := hbw.trans (hb2.mono hbw.size)
      have := fun w' (hbw : Below w.heap.size w w') => fits_reify x vs cs n A B c1 c2 w' hx (hb.over hbw)
      exact this w2 hbw)
  · obtain ⟨⟨t1, t2, t3, t4, t5, t6⟩, vr, cr, nr⟩ := vp_facts hv
    exact hold_reify x vs cs us n A B D c1 c2 c3 w' hx (pl_of (ha.over hbw) (hd.over hbw) vr) (hb.over hbw) hn (by omega) (by omega)
theorem holdsP_element (x : ByteArray) (vs cs us : List Int) (n : Int) (A B D : Option Addr) (c1 c2 c3 : Nat) (w : World) (hx : x.toList = [101, 108, 101, 109, 101, 110, 116]) (ha : Ints w A vs) (hb : Ints w B cs) (hd : Ints w D us) (hcc : cs.length ≤ c2) (hn : -9223372036854775808 ≤ n ∧ n ≤ 9223372036854775807) :
    Calls Tryd.prog 25 #[.agg #[.string x, .slice A vs.length c1, .slice B cs.length c2, .int .i64 n], .slice D us.length c3] w fun e w' => e = .returned (.bool (vpCore 2 1 40 false false false vs cs n us.length && (decide (1 ≤ nthI (pick vs us) 0) && decide (nthI (pick vs us) 0 ≤ cs.length) && decide (nthI cs (nthI (pick vs us) 0 - 1).toNat = nthI (pick vs us) 1)))) ∧ Below w.heap.size w w' := by
  refine Holds_of _ _ us.length x A B D vs.length cs.length c1 c2 c3 n w _ _ rfl rfl (fun w' hbw => ?_) (fun hv w' hbw => ?_)
  · rw [← vp_same_element vs cs n us.length]
    exact valid_any _ vs cs n us.length x A B c1 c2 w' _ rfl (ha.over hbw) (hb.over hbw) (fun w2 hb2 => by
      have hbw := hbw.trans (hb2.mono hbw.size)
      have := fun w' (hbw : Below w.heap.size w w') => fits_element x vs cs n A B c1 c2 w' hx (hb.over hbw)
      exact this w2 hbw)
  · obtain ⟨⟨t1, t2, t3, t4, t5, t6⟩, vr, cr, nr⟩ := vp_facts hv
    exact hold_element x vs cs us n A B D c1 c2 c3 w' hx (pl_of (ha.over hbw) (hd.over hbw) vr) (hb.over hbw) (by omega)
theorem apart_to (x : ByteArray) (vs cs us : List Int) (n : Int) (A B D : Option Addr) (c1 c2 c3 : Nat) (w : World) (hx : x.toList = [97, 112, 97, 114, 116]) (hp : Pl w A D vs us) (hb : Ints w B cs) (hcc : cs.length ≤ c2) (hm : 2 ≤ vs.length) (hl : cs.length = 2) :
    Calls Tryd.prog 42 #[.agg #[.string x, .slice A vs.length c1, .slice B cs.length c2, .int .i64 n], .slice D us.length c3] w fun e w' => e = .returned (.bool (decide (nthI (pick vs us) 0 - nthI (pick vs us) 1 ≤ -nthI cs 0) || decide (nthI (pick vs us) 1 - nthI (pick vs us) 0 ≤ -nthI cs 1))) ∧ Below w.heap.size w w' := by
  obtain ⟨a, b, rfl⟩ := two hl
  exact hold_apart x vs us n a b A B D c1 c2 c3 w hx hp hb hcc hm
theorem holdsP_apart (x : ByteArray) (vs cs us : List Int) (n : Int) (A B D : Option Addr) (c1 c2 c3 : Nat) (w : World) (hx : x.toList = [97, 112, 97, 114, 116]) (ha : Ints w A vs) (hb : Ints w B cs) (hd : Ints w D us) (hcc : cs.length ≤ c2) (hn : -9223372036854775808 ≤ n ∧ n ≤ 9223372036854775807) :
    Calls Tryd.prog 25 #[.agg #[.string x, .slice A vs.length c1, .slice B cs.length c2, .int .i64 n], .slice D us.length c3] w fun e w' => e = .returned (.bool (vpCore 2 2 2 false true false vs cs n us.length && (decide (nthI (pick vs us) 0 - nthI (pick vs us) 1 ≤ -nthI cs 0) || decide (nthI (pick vs us) 1 - nthI (pick vs us) 0 ≤ -nthI cs 1)))) ∧ Below w.heap.size w w' := by
  refine Holds_of _ _ us.length x A B D vs.length cs.length c1 c2 c3 n w _ _ rfl rfl (fun w' hbw => ?_) (fun hv w' hbw => ?_)
  · rw [← vp_same_apart vs cs n us.length]
    exact valid_any _ vs cs n us.length x A B c1 c2 w' _ rfl (ha.over hbw) (hb.over hbw) (fun w2 hb2 => by
      have hbw := hbw.trans (hb2.mono hbw.size)
      have := fun w' (hbw : Below w.heap.size w w') => fits_apart x vs cs n A B c1 c2 w' hx (hb.over hbw)
      exact this w2 hbw)
  · obtain ⟨⟨t1, t2, t3, t4, t5, t6⟩, vr, cr, nr⟩ := vp_facts hv
    exact apart_to x vs cs us n A B D c1 c2 c3 w' hx (pl_of (ha.over hbw) (hd.over hbw) vr) (hb.over hbw) hcc (by omega) (by omega)
theorem Holds_p_any : HoldsOk := by
  intro x vs cs us n A B D c1 c2 c3 w ha hb hd hcc hn _ _ _ _
  by_cases h0 : x.toList = [115, 117, 109]
  · have e : hoB x.toList vs cs us n = (vpCore vs.length vs.length vs.length true false true vs cs n us.length && decide (dot cs (pick vs us) = n)) := by
      unfold hoB
      rw [h0]
      rfl
    rw [e]
    exact holdsP_sum x vs cs us n A B D c1 c2 c3 w h0 ha hb hd hcc hn
  by_cases h1 : x.toList = [109, 111, 115, 116]
  · have e : hoB x.toList vs cs us n = (vpCore vs.length vs.length vs.length true false true vs cs n us.length && decide (dot cs (pick vs us) ≤ n)) := by
      unfold hoB
      rw [h1]
      rfl
    rw [e]
    exact holdsP_most x vs cs us n A B D c1 c2 c3 w h1 ha hb hd hcc hn
  by_cases h2 : x.toList = [100, 105, 115, 116, 105, 110, 99, 116]
  · have e : hoB x.toList vs cs us n = (vpCore vs.length 0 0 false false false vs cs n us.length && decide (pick vs us).Nodup) := by
      unfold hoB
      rw [h2]
      rfl
    rw [e]
    exact holdsP_distinct x vs cs us n A B D c1 c2 c3 w h2 ha hb hd hcc hn
  by_cases h3 : x.toList = [117, 110, 108, 105, 107, 101]
  · have e : hoB x.toList vs cs us n = (vpCore 2 0 0 false false true vs cs n us.length && decide (nthI (pick vs us) 1 - nthI (pick vs us) 0 ≠ n)) := by
      unfold hoB
      rw [h3]
      rfl
    rw [e]
    exact holdsP_unlike x vs cs us n A B D c1 c2 c3 w h3 ha hb hd hcc hn
  by_cases h4 : x.toList = [112, 114, 111, 100, 117, 99, 116]
  · have e : hoB x.toList vs cs us n = (vpCore 3 0 0 false false false vs cs n us.length && decide (nthI (pick vs us) 0 * nthI (pick vs us) 1 = nthI (pick vs us) 2)) := by
      unfold hoB
      rw [h4]
      rfl
    rw [e]
    exact holdsP_product x vs cs us n A B D c1 c2 c3 w h4 ha hb hd hcc hn
  by_cases h5 : x.toList = [109, 97, 120]
  · have e : hoB x.toList vs cs us n = (vpCore 3 0 0 false false false vs cs n us.length && decide (nthI (pick vs us) 2 = max (nthI (pick vs us) 0) (nthI (pick vs us) 1))) := by
      unfold hoB
      rw [h5]
      rfl
    rw [e]
    exact holdsP_max x vs cs us n A B D c1 c2 c3 w h5 ha hb hd hcc hn
  by_cases h6 : x.toList = [114, 101, 105, 102, 121]
  · have e : hoB x.toList vs cs us n = (vpCore 3 0 0 false false true vs cs n us.length && (decide (nthI (pick vs us) 0 = 1) && decide (nthI (pick vs us) 1 - nthI (pick vs us) 2 ≤ n) || decide (nthI (pick vs us) 0 = 0) && !decide (nthI (pick vs us) 1 - nthI (pick vs us) 2 ≤ n))) := by
      unfold hoB
      rw [h6]
      rfl
    rw [e]
    exact holdsP_reify x vs cs us n A B D c1 c2 c3 w h6 ha hb hd hcc hn
  by_cases h7 : x.toList = [101, 108, 101, 109, 101, 110, 116]
  · have e : hoB x.toList vs cs us n = (vpCore 2 1 40 false false false vs cs n us.length && (decide (1 ≤ nthI (pick vs us) 0) && decide (nthI (pick vs us) 0 ≤ cs.length) && decide (nthI cs (nthI (pick vs us) 0 - 1).toNat = nthI (pick vs us) 1))) := by
      unfold hoB
      rw [h7]
      rfl
    rw [e]
    exact holdsP_element x vs cs us n A B D c1 c2 c3 w h7 ha hb hd hcc hn
  by_cases h8 : x.toList = [97, 112, 97, 114, 116]
  · have e : hoB x.toList vs cs us n = (vpCore 2 2 2 false true false vs cs n us.length && (decide (nthI (pick vs us) 0 - nthI (pick vs us) 1 ≤ -nthI cs 0) || decide (nthI (pick vs us) 1 - nthI (pick vs us) 0 ≤ -nthI cs 1))) := by
      unfold hoB
      rw [h8]
      rfl
    rw [e]
    exact holdsP_apart x vs cs us n A B D c1 c2 c3 w h8 ha hb hd hcc hn
  have e : hoB x.toList vs cs us n = (false && false) := by
    unfold hoB
    rw [if_neg h0, if_neg h1, if_neg h2, if_neg h3, if_neg h4, if_neg h5, if_neg h6, if_neg h7, if_neg h8]; rfl
  rw [e]
  refine Holds_of _ _ us.length x A B D vs.length cs.length c1 c2 c3 n w false false rfl rfl (fun w' hbw => ?_) (fun hv => by cases hv)
  have := valid_any _ vs cs n us.length x A B c1 c2 w' false rfl (ha.over hbw) (hb.over hbw) (fun w2 hb2 => fits_none x vs cs n A B c1 c2 w2 h0 h1 h2 h3 h4 h5 h6 h7 h8 ((hb.over hbw).over hb2))
  rw [Bool.and_false, Bool.false_and, Bool.false_and] at this
  exact this
end Go.Proofs.YtpejolnjnkcolaaDoor
