/-
  Whether a propagator has what its kind asks: the program's own answer.
-/
import Derived.Test.YtpejolnjnkcolaaDoorHpD
import Derived.Test.YtpejolnjnkcolaaDoorDmF
import Derived.Test.YtpejolnjnkcolaaDoorEvM7
import Derived.Lib.Strings
namespace Go.Proofs.YtpejolnjnkcolaaDoor
open Go Go.RowKit Go.Ev

set_option maxHeartbeats 1000000 in
theorem index0_any (xs : List Int) (A : Option Addr) (c1 : Nat) (w : World) (ha : Ints w A xs) :
    Calls Tryd.prog 94 #[.slice A xs.length c1, .int .i64 0] w fun e w' => ∃ r : Int, e = .returned (.int .i64 r) ∧ decide (0 ≤ r) = (xs.any fun x => x == 0) ∧ w' = w := by
  have hlx := ha.1
  have HA := Lib.hid ha.2.2
  go_enter Tryd.func94, Tryd.ntmps94
  go_wp2_with fail
  go_loopw [5, 8] (fun _ i wr => ∃ k : Nat, k ≤ xs.length ∧ i = .int .i64 k ∧ (∀ j (hj : j < k) (hl : j < xs.length), xs[j] ≠ 0) ∧ wr = w) (fun _ i _ => xs.length - (intOf i).toNat)
  case atStart => exact ⟨0, Nat.zero_le _, rfl, fun j hj => absurd hj (Nat.not_lt_zero _), rfl⟩
  case round =>
    obtain ⟨k, hk, rfl, hall, rfl⟩ := hrel
    have HL := Lib.hid hall
    clear hall
    by_cases hlt : k < xs.length
    · obtain ⟨b1, o1, rfl, hb1', g1⟩ := HA.out (by omega)
      have x1 := g1 k hlt
      have z1 : (k : Int) < (xs.length : Int) := by omega
      have z2 : (0 : Int) ≤ (k : Int) := by omega
      generalize hx : xs[k] = x at *
      have HX := Lib.hid hx
      clear g1 HA hx
      by_cases hp : x = 0
      · subst hp
        go_wp2_with fail
        go_ret
        refine ⟨_, rfl, ?_, rfl⟩
        rw [decide_eq_true (by omega)]
        symm
        rw [List.any_eq_true]
        exact ⟨0, by rw [← HX.out]; exact List.getElem_mem _, by simp⟩
      · have hne : ((0 : Int) == x) = false := by simp; omega
        have HP := Lib.hid hp
        clear hp
        go_wp2_with fail
        go_roundw
        case rel =>
          refine ⟨k + 1, by omega, by go_num, fun j hj hl => ?_, by first | rfl | trivial⟩
          rcases Nat.lt_or_ge j k with h | h
          · exact HL.out j h hl
          · obtain rfl : j = k := by omega
            rw [HX.out]; exact HP.out
        case measure => simp [intOf]; omega
    · obtain rfl : k = xs.length := by omega
      clear HA
      go_wp2_with fail
      go_ret
      refine ⟨_, rfl, ?_, rfl⟩
      rw [decide_eq_false (by omega)]
      symm
      rw [List.any_eq_false]
      intro x hx
      obtain ⟨j, hj, rfl⟩ := List.getElem_of_mem hx
      simpa using HL.out j hj hj
theorem contains0_any (xs : List Int) (A : Option Addr) (c1 : Nat) (w : World) (ha : Ints w A xs) :
    Calls Tryd.prog 81 #[.slice A xs.length c1, .int .i64 0] w fun e w' => e = .returned (.bool (xs.any fun x => x == 0)) ∧ w' = w := by
  have C := Lib.hid (index0_any xs A c1 w ha)
  generalize (xs.any fun x => x == 0) = R at *
  go_enter Tryd.func81, Tryd.ntmps81
  go_wp2_with (go_at_call 94; refine C.out.mono ?_; rintro e w1 ⟨r, rfl, hr, rfl⟩)
  go_ret
  exact ⟨by rw [← hr]; rfl, rfl⟩

/-! ### by the evaluator: all kinds but one -/
theorem lr1 {φ : Pm} {x : Value} {l : List Value} (h : LR φ [x] l) : ∃ x', l = [x'] ∧ VR φ x x' := by
  obtain ⟨a, rfl⟩ : ∃ a, l = [a] := by
    have hl := h.1
    rcases l with _ | ⟨a, _ | ⟨d, l⟩⟩ <;> simp at hl
    exact ⟨a, rfl⟩
  exact ⟨a, rfl, h.cons_inv.1⟩
def manyB (n : Int) : Bool := decide (1 ≤ n ∧ n ≤ 40)
noncomputable def fTab : Tab := [(59, Tryd.f59)]
theorem hp_tab_cons {f : Nat} {fn : Func} {t : Tab} (h : Tryd.prog.funcs[f]? = some fn ∧ ∀ args w, (callFunc f args).run Tryd.prog w = .ok (.enter f args) w) (ht : Tab.ok Tryd.prog t) : Tab.ok Tryd.prog ((f, fn) :: t) := fun k g hk => by
  simp only [Tab.find] at hk
  split at hk
  · rename_i e
    cases hk
    rw [← Nat.eq_of_beq_eq_true e]
    exact h
  · exact ht k g hk
theorem fTab_ok : fTab.ok Tryd.prog := hp_tab_cons ⟨Tryd.func59, enters Tryd.func59 (by decide +kernel) (by kernel_rfl)⟩ tab_nil
def fEnv (vs cs : List Int) (n : Int) (A B : Option Addr) (c1 c2 : Nat) : List Value := [.slice A vs.length c1, .slice B cs.length c2, .int .i64 n, .int .i64 vs.length, .int .i64 cs.length]
theorem fEnv_one (vs cs : List Int) (n : Int) (A B : Option Addr) (c1 c2 : Nat) : ∀ v ∈ fEnv vs cs n A B c1 c2, v.oneCell' = true ∧ v.cells = #[v] := by
  intro v hv
  simp only [fEnv, List.mem_cons, List.not_mem_nil, or_false] at hv
  rcases hv with rfl | rfl | rfl | rfl | rfl <;> exact ⟨rfl, rfl⟩
def fOps (bEq v2 v3 c0 c2 : Bool) : OpO where
  bin b _ v u := match b, v, u with
    | .eql, .chan (some 4), .chan (some 3) => some (.bool bEq)
    | .eql, .chan (some 3), .int .i64 2 => some (.bool v2)
    | .eql, .chan (some 3), .int .i64 3 => some (.bool v3)
    | .eql, .chan (some 4), .int .i64 0 => some (.bool c0)
    | .eql, .chan (some 4), .int .i64 2 => some (.bool c2)
    | _, _, _ => none
  len t v := if Nat.beq t 23 then (match v with
    | .chan (some 0) => some (.chan (some 3))
    | .chan (some 1) => some (.chan (some 4))
    | _ => none) else none
  un _ _ := none
theorem fOps_ok {w : World} (vs cs : List Int) (n : Int) (A B : Option Addr) (c1 c2 : Nat) :
    OpOk Tryd.prog (iW w (fEnv vs cs n A B c1 c2) (fEnv_one vs cs n A B c1 c2)) (fOps ((cs.length : Int) == (vs.length : Int)) ((vs.length : Int) == 2) ((vs.length : Int) == 3) ((cs.length : Int) == 0) ((cs.length : Int) == 2)) := by
  refine ⟨fun b t v u r h φ sy v' u' hv hu xo yo w1 => ?_, fun t v r h φ sy v' hv ty w1 => ?_, fun o v r h => (nomatch h)⟩
  · simp only [fOps] at h
    split at h
    · cases h
      rw [one_sym sy hv, one_sym sy hu]
      exact ⟨_, op_eql, .leaf rfl⟩
    all_goals first
      | (cases h; done)
      | (cases h
         rw [one_sym sy hv, plain_eq 0 _ _ rfl hu]
         exact ⟨_, op_eql, .leaf rfl⟩)
  · simp only [fOps] at h
    split at h
    · rename_i ht
      obtain rfl := Nat.eq_of_beq_eq_true ht
      split at h
      · cases h
        rw [one_sym sy hv]
        exact ⟨_, op_len_slice (A := A) (l := vs.length) (c := c1) Tryd.underlying23, VR.sym sy (r := 3) (show 3 < 5 by decide)⟩
      · cases h
        rw [one_sym sy hv]
        exact ⟨_, op_len_slice (A := B) (l := cs.length) (c := c2) Tryd.underlying23, VR.sym sy (r := 4) (show 4 < 5 by decide)⟩
      · cases h
    · cases h
def fOrc (mV mC z nC : Bool) : Orc := fun k args _ => match args with
  | [.chan (some 3)] => if Nat.beq k 80 then some (.bool mV) else none
  | [.chan (some 4)] => if Nat.beq k 80 then some (.bool mC) else none
  | [.chan (some 1), .int .i64 0] => if Nat.beq k 81 then some (.bool z) else none
  | [.chan (some 2)] => if Nat.beq k 62 then some (.bool nC) else none
  | _ => none
theorem fOrc_ok {w : World} (vs cs : List Int) (n : Int) (A B : Option Addr) (c1 c2 : Nat) (hb : Ints w B cs) :
    OrcOk Tryd.prog (iW w (fEnv vs cs n A B c1 c2) (fEnv_one vs cs n A B c1 c2)) (fOrc (manyB vs.length) (manyB cs.length) (cs.any fun x => x == 0) (coefB n)) := by
  intro k args st v h φ args' w1 H hl
  have sy := H.sym
  unfold fOrc at h
  split at h
  · split at h
    · rename_i hk
      obtain rfl := Nat.eq_of_beq_eq_true hk
      cases h
      obtain ⟨y, rfl, hy⟩ := lr1 hl
      rw [one_sym sy hy]
      refine ⟨fun w => enters Tryd.func80 (by decide +kernel) (by kernel_rfl) _ w, Calls.mono (isMany_any vs.length w1) ?_⟩
      rintro e w' ⟨rfl, rfl⟩
      exact ⟨⟨_, rfl, .leaf rfl⟩, Below.refl _ _⟩
    · cases h
  · split at h
    · rename_i hk
      obtain rfl := Nat.eq_of_beq_eq_true hk
      cases h
      obtain ⟨y, rfl, hy⟩ := lr1 hl
      rw [one_sym sy hy]
      refine ⟨fun w => enters Tryd.func80 (by decide +kernel) (by kernel_rfl) _ w, Calls.mono (isMany_any cs.length w1) ?_⟩
      rintro e w' ⟨rfl, rfl⟩
      exact ⟨⟨_, rfl, .leaf rfl⟩, Below.refl _ _⟩
    · cases h
  · split at h
    · rename_i hk
      obtain rfl := Nat.eq_of_beq_eq_true hk
      cases h
      obtain ⟨y, z, rfl, hy, hz⟩ := lr2 hl
      rw [one_sym sy hy, plain_eq 0 _ _ rfl hz]
      refine ⟨fun w => enters Tryd.func81 (by decide +kernel) (by kernel_rfl) _ w, Calls.mono (contains0_any cs B c2 w1 (hb.over H.below)) ?_⟩
      rintro e w' ⟨rfl, rfl⟩
      exact ⟨⟨_, rfl, .leaf rfl⟩, Below.refl _ _⟩
    · cases h
  · split at h
    · rename_i hk
      obtain rfl := Nat.eq_of_beq_eq_true hk
      cases h
      obtain ⟨y, rfl, hy⟩ := lr1 hl
      rw [one_sym sy hy]
      refine ⟨fun w => enters Tryd.func62 (by decide +kernel) (by kernel_rfl) _ w, Calls.mono (isCoef_any n w1) ?_⟩
      rintro e w' ⟨rfl, rfl⟩
      exact ⟨⟨_, rfl, .leaf rfl⟩, Below.refl _ _⟩
    · cases h
  · cases h
def bs : List Bool := [true, false]
theorem bs_all {p : Bool → Bool} (h : (bs.all p) = true) (b : Bool) : p b = true := List.all_eq_true.1 h b (by cases b <;> decide)
set_option maxRecDepth 100000 in
theorem fits_g_sum : (bs.all fun bEq => bs.all fun v2 => bs.all fun v3 => bs.all fun c0 => bs.all fun c2 => bs.all fun mV => bs.all fun mC => bs.all fun z => bs.all fun nC => gives Tryd.prog (fOps bEq v2 v3 c0 c2) (fOrc mV mC z nC) fTab [] 50 20 5 59 [.agg ⟨[.string ⟨#[115, 117, 109]⟩, .chan (some 0), .chan (some 1), .chan (some 2)]⟩] (.bool (mV && bEq && !z && nC))) = true := by kernel_rfl
theorem fits_sum (x : ByteArray) (vs cs : List Int) (n : Int) (A B : Option Addr) (c1 c2 : Nat) (w : World) (hx : x.toList = [115, 117, 109]) (hb : Ints w B cs) :
    Calls Tryd.prog 59 #[.agg #[.string x, .slice A vs.length c1, .slice B cs.length c2, .int .i64 n]] w fun e w' => e = .returned (.bool (manyB vs.length && ((cs.length : Int) == (vs.length : Int)) && !(cs.any fun x => x == 0) && coefB n)) ∧ Below w.heap.size w w' := by
  obtain rfl : x = ⟨#[115, 117, 109]⟩ := by
    obtain ⟨⟨d⟩⟩ := x; rw [Lib.toList_data] at hx; obtain rfl : d = _ := hx; rfl
  have s : ∀ r, r < 5 → VR (symφ (iW w (fEnv vs cs n A B c1 c2) (fEnv_one vs cs n A B c1 c2))) (.chan (some r)) ((fEnv vs cs n A B c1 c2).getD r (.int .i64 0)) := fun r hr => VR.sym (symφ_sy (iW w (fEnv vs cs n A B c1 c2) (fEnv_one vs cs n A B c1 c2))) hr
  refine run_rel (w0 := iW w (fEnv vs cs n A B c1 c2) (fEnv_one vs cs n A B c1 c2)) mixed fTab_ok xtab_nil (Nat.le_refl _) (fOps_ok vs cs n A B c1 c2) (fOrc_ok vs cs n A B c1 c2 hb) (LR.cons (VR.agg_iff.2 (LR.cons (.leaf (by decide +kernel)) (LR.cons (s 0 (by decide)) (LR.cons (s 1 (by decide)) (LR.cons (s 2 (by decide)) LR.nil))))) LR.nil) rfl (bs_all (bs_all (bs_all (bs_all (bs_all (bs_all (bs_all (bs_all (bs_all fits_g_sum (((cs.length : Int) == (vs.length : Int)))) (((vs.length : Int) == 2))) (((vs.length : Int) == 3))) (((cs.length : Int) == 0))) (((cs.length : Int) == 2))) (manyB vs.length)) (manyB cs.length)) ((cs.any fun x => x == 0))) (coefB n))
set_option maxRecDepth 100000 in
theorem fits_g_most : (bs.all fun bEq => bs.all fun v2 => bs.all fun v3 => bs.all fun c0 => bs.all fun c2 => bs.all fun mV => bs.all fun mC => bs.all fun z => bs.all fun nC => gives Tryd.prog (fOps bEq v2 v3 c0 c2) (fOrc mV mC z nC) fTab [] 50 20 5 59 [.agg ⟨[.string ⟨#[109, 111, 115, 116]⟩, .chan (some 0), .chan (some 1), .chan (some 2)]⟩] (.bool (mV && bEq && !z && nC))) = true := by kernel_rfl
theorem fits_most (x : ByteArray) (vs cs : List Int) (n : Int) (A B : Option Addr) (c1 c2 : Nat) (w : World) (hx : x.toList = [109, 111, 115, 116]) (hb : Ints w B cs) :
    Calls Tryd.prog 59 #[.agg #[.string x, .slice A vs.length c1, .slice B cs.length c2, .int .i64 n]] w fun e w' => e = .returned (.bool (manyB vs.length && ((cs.length : Int) == (vs.length : Int)) && !(cs.any fun x => x == 0) && coefB n)) ∧ Below w.heap.size w w' := by
  obtain rfl : x = ⟨#[109, 111, 115, 116]⟩ := by
    obtain ⟨⟨d⟩⟩ := x; rw [Lib.toList_data] at hx; obtain rfl : d = _ := hx; rfl
  have s : ∀ r, r < 5 → VR (symφ (iW w (fEnv vs cs n A B c1 c2) (fEnv_one vs cs n A B c1 c2))) (.chan (some r)) ((fEnv vs cs n A B c1 c2).getD r (.int .i64 0)) := fun r hr => VR.sym (symφ_sy (iW w (fEnv vs cs n A B c1 c2) (fEnv_one vs cs n A B c1 c2))) hr
  refine run_rel (w0 := iW w (fEnv vs cs n A B c1 c2) (fEnv_one vs cs n A B c1 c2)) mixed fTab_ok xtab_nil (Nat.le_refl _) (fOps_ok vs cs n A B c1 c2) (fOrc_ok vs cs n A B c1 c2 hb) (LR.cons (VR.agg_iff.2 (LR.cons (.leaf (by decide +kernel)) (LR.cons (s 0 (by decide)) (LR.cons (s 1 (by decide)) (LR.cons (s 2 (by decide)) LR.nil))))) LR.nil) rfl (bs_all (bs_all (bs_all (bs_all (bs_all (bs_all (bs_all (bs_all (bs_all fits_g_most (((cs.length : Int) == (vs.length : Int)))) (((vs.length : Int) == 2))) (((vs.length : Int) == 3))) (((cs.length : Int) == 0))) (((cs.length : Int) == 2))) (manyB vs.length)) (manyB cs.length)) ((cs.any fun x => x == 0))) (coefB n))
set_option maxRecDepth 100000 in
theorem fits_g_distinct : (bs.all fun bEq => bs.all fun v2 => bs.all fun v3 => bs.all fun c0 => bs.all fun c2 => bs.all fun mV => bs.all fun mC => bs.all fun z => bs.all fun nC => gives Tryd.prog (fOps bEq v2 v3 c0 c2) (fOrc mV mC z nC) fTab [] 50 20 5 59 [.agg ⟨[.string ⟨#[100, 105, 115, 116, 105, 110, 99, 116]⟩, .chan (some 0), .chan (some 1), .chan (some 2)]⟩] (.bool (mV && c0))) = true := by kernel_rfl
theorem fits_distinct (x : ByteArray) (vs cs : List Int) (n : Int) (A B : Option Addr) (c1 c2 : Nat) (w : World) (hx : x.toList = [100, 105, 115, 116, 105, 110, 99, 116]) (hb : Ints w B cs) :
    Calls Tryd.prog 59 #[.agg #[.string x, .slice A vs.length c1, .slice B cs.length c2, .int .i64 n]] w fun e w' => e = .returned (.bool (manyB vs.length && ((cs.length : Int) == 0))) ∧ Below w.heap.size w w' := by
  obtain rfl : x = ⟨#[100, 105, 115, 116, 105, 110, 99, 116]⟩ := by
    obtain ⟨⟨d⟩⟩ := x; rw [Lib.toList_data] at hx; obtain rfl : d = _ := hx; rfl
  have s : ∀ r, r < 5 → VR (symφ (iW w (fEnv vs cs n A B c1 c2) (fEnv_one vs cs n A B c1 c2))) (.chan (some r)) ((fEnv vs cs n A B c1 c2).getD r (.int .i64 0)) := fun r hr => VR.sym (symφ_sy (iW w (fEnv vs cs n A B c1 c2) (fEnv_one vs cs n A B c1 c2))) hr
  refine run_rel (w0 := iW w (fEnv vs cs n A B c1 c2) (fEnv_one vs cs n A B c1 c2)) mixed fTab_ok xtab_nil (Nat.le_refl _) (fOps_ok vs cs n A B c1 c2) (fOrc_ok vs cs n A B c1 c2 hb) (LR.cons (VR.agg_iff.2 (LR.cons (.leaf (by decide +kernel)) (LR.cons (s 0 (by decide)) (LR.cons (s 1 (by decide)) (LR.cons (s 2 (by decide)) LR.nil))))) LR.nil) rfl (bs_all (bs_all (bs_all (bs_all (bs_all (bs_all (bs_all (bs_all (bs_all fits_g_distinct (((cs.length : Int) == (vs.length : Int)))) (((vs.length : Int) == 2))) (((vs.length : Int) == 3))) (((cs.length : Int) == 0))) (((cs.length : Int) == 2))) (manyB vs.length)) (manyB cs.length)) ((cs.any fun x => x == 0))) (coefB n))
set_option maxRecDepth 100000 in
theorem fits_g_unlike : (bs.all fun bEq => bs.all fun v2 => bs.all fun v3 => bs.all fun c0 => bs.all fun c2 => bs.all fun mV => bs.all fun mC => bs.all fun z => bs.all fun nC => gives Tryd.prog (fOps bEq v2 v3 c0 c2) (fOrc mV mC z nC) fTab [] 50 20 5 59 [.agg ⟨[.string ⟨#[117, 110, 108, 105, 107, 101]⟩, .chan (some 0), .chan (some 1), .chan (some 2)]⟩] (.bool (v2 && c0 && nC))) = true := by kernel_rfl
theorem fits_unlike (x : ByteArray) (vs cs : List Int) (n : Int) (A B : Option Addr) (c1 c2 : Nat) (w : World) (hx : x.toList = [117, 110, 108, 105, 107, 101]) (hb : Ints w B cs) :
    Calls Tryd.prog 59 #[.agg #[.string x, .slice A vs.length c1, .slice B cs.length c2, .int .i64 n]] w fun e w' => e = .returned (.bool (((vs.length : Int) == 2) && ((cs.length : Int) == 0) && coefB n)) ∧ Below w.heap.size w w' := by
  obtain rfl : x = ⟨#[117, 110, 108, 105, 107, 101]⟩ := by
    obtain ⟨⟨d⟩⟩ := x; rw [Lib.toList_data] at hx; obtain rfl : d = _ := hx; rfl
  have s : ∀ r, r < 5 → VR (symφ (iW w (fEnv vs cs n A B c1 c2) (fEnv_one vs cs n A B c1 c2))) (.chan (some r)) ((fEnv vs cs n A B c1 c2).getD r (.int .i64 0)) := fun r hr => VR.sym (symφ_sy (iW w (fEnv vs cs n A B c1 c2) (fEnv_one vs cs n A B c1 c2))) hr
  refine run_rel (w0 := iW w (fEnv vs cs n A B c1 c2) (fEnv_one vs cs n A B c1 c2)) mixed fTab_ok xtab_nil (Nat.le_refl _) (fOps_ok vs cs n A B c1 c2) (fOrc_ok vs cs n A B c1 c2 hb) (LR.cons (VR.agg_iff.2 (LR.cons (.leaf (by decide +kernel)) (LR.cons (s 0 (by decide)) (LR.cons (s 1 (by decide)) (LR.cons (s 2 (by decide)) LR.nil))))) LR.nil) rfl (bs_all (bs_all (bs_all (bs_all (bs_all (bs_all (bs_all (bs_all (bs_all fits_g_unlike (((cs.length : Int) == (vs.length : Int)))) (((vs.length : Int) == 2))) (((vs.length : Int) == 3))) (((cs.length : Int) == 0))) (((cs.length : Int) == 2))) (manyB vs.length)) (manyB cs.length)) ((cs.any fun x => x == 0))) (coefB n))
set_option maxRecDepth 100000 in
theorem fits_g_product : (bs.all fun bEq => bs.all fun v2 => bs.all fun v3 => bs.all fun c0 => bs.all fun c2 => bs.all fun mV => bs.all fun mC => bs.all fun z => bs.all fun nC => gives Tryd.prog (fOps bEq v2 v3 c0 c2) (fOrc mV mC z nC) fTab [] 50 20 5 59 [.agg ⟨[.string ⟨#[112, 114, 111, 100, 117, 99, 116]⟩, .chan (some 0), .chan (some 1), .chan (some 2)]⟩] (.bool (v3 && c0))) = true := by kernel_rfl
theorem fits_product (x : ByteArray) (vs cs : List Int) (n : Int) (A B : Option Addr) (c1 c2 : Nat) (w : World) (hx : x.toList = [112, 114, 111, 100, 117, 99, 116]) (hb : Ints w B cs) :
    Calls Tryd.prog 59 #[.agg #[.string x, .slice A vs.length c1, .slice B cs.length c2, .int .i64 n]] w fun e w' => e = .returned (.bool (((vs.length : Int) == 3) && ((cs.length : Int) == 0))) ∧ Below w.heap.size w w' := by
  obtain rfl : x = ⟨#[112, 114, 111, 100, 117, 99, 116]⟩ := by
    obtain ⟨⟨d⟩⟩ := x; rw [Lib.toList_data] at hx; obtain rfl : d = _ := hx; rfl
  have s : ∀ r, r < 5 → VR (symφ (iW w (fEnv vs cs n A B c1 c2) (fEnv_one vs cs n A B c1 c2))) (.chan (some r)) ((fEnv vs cs n A B c1 c2).getD r (.int .i64 0)) := fun r hr => VR.sym (symφ_sy (iW w (fEnv vs cs n A B c1 c2) (fEnv_one vs cs n A B c1 c2))) hr
  refine run_rel (w0 := iW w (fEnv vs cs n A B c1 c2) (fEnv_one vs cs n A B c1 c2)) mixed fTab_ok xtab_nil (Nat.le_refl _) (fOps_ok vs cs n A B c1 c2) (fOrc_ok vs cs n A B c1 c2 hb) (LR.cons (VR.agg_iff.2 (LR.cons (.leaf (by decide +kernel)) (LR.cons (s 0 (by decide)) (LR.cons (s 1 (by decide)) (LR.cons (s 2 (by decide)) LR.nil))))) LR.nil) rfl (bs_all (bs_all (bs_all (bs_all (bs_all (bs_all (bs_all (bs_all (bs_all fits_g_product (((cs.length : Int) == (vs.length : Int)))) (((vs.length : Int) == 2))) (((vs.length : Int) == 3))) (((cs.length : Int) == 0))) (((cs.length : Int) == 2))) (manyB vs.length)) (manyB cs.length)) ((cs.any fun x => x == 0))) (coefB n))
set_option maxRecDepth 100000 in
theorem fits_g_max : (bs.all fun bEq => bs.all fun v2 => bs.all fun v3 => bs.all fun c0 => bs.all fun c2 => bs.all fun mV => bs.all fun mC => bs.all fun z => bs.all fun nC => gives Tryd.prog (fOps bEq v2 v3 c0 c2) (fOrc mV mC z nC) fTab [] 50 20 5 59 [.agg ⟨[.string ⟨#[109, 97, 120]⟩, .chan (some 0), .chan (some 1), .chan (some 2)]⟩] (.bool (v3 && c0))) = true := by kernel_rfl
theorem fits_max (x : ByteArray) (vs cs : List Int) (n : Int) (A B : Option Addr) (c1 c2 : Nat) (w : World) (hx : x.toList = [109, 97, 120]) (hb : Ints w B cs) :
    Calls Tryd.prog 59 #[.agg #[.string x, .slice A vs.length c1, .slice B cs.length c2, .int .i64 n]] w fun e w' => e = .returned (.bool (((vs.length : Int) == 3) && ((cs.length : Int) == 0))) ∧ Below w.heap.size w w' := by
  obtain rfl : x = ⟨#[109, 97, 120]⟩ := by
    obtain ⟨⟨d⟩⟩ := x; rw [Lib.toList_data] at hx; obtain rfl : d = _ := hx; rfl
  have s : ∀ r, r < 5 → VR (symφ (iW w (fEnv vs cs n A B c1 c2) (fEnv_one vs cs n A B c1 c2))) (.chan (some r)) ((fEnv vs cs n A B c1 c2).getD r (.int .i64 0)) := fun r hr => VR.sym (symφ_sy (iW w (fEnv vs cs n A B c1 c2) (fEnv_one vs cs n A B c1 c2))) hr
  refine run_rel (w0 := iW w (fEnv vs cs n A B c1 c2) (fEnv_one vs cs n A B c1 c2)) mixed fTab_ok xtab_nil (Nat.le_refl _) (fOps_ok vs cs n A B c1 c2) (fOrc_ok vs cs n A B c1 c2 hb) (LR.cons (VR.agg_iff.2 (LR.cons (.leaf (by decide +kernel)) (LR.cons (s 0 (by decide)) (LR.cons (s 1 (by decide)) (LR.cons (s 2 (by decide)) LR.nil))))) LR.nil) rfl (bs_all (bs_all (bs_all (bs_all (bs_all (bs_all (bs_all (bs_all (bs_all fits_g_max (((cs.length : Int) == (vs.length : Int)))) (((vs.length : Int) == 2))) (((vs.length : Int) == 3))) (((cs.length : Int) == 0))) (((cs.length : Int) == 2))) (manyB vs.length)) (manyB cs.length)) ((cs.any fun x => x == 0))) (coefB n))
set_option maxRecDepth 100000 in
theorem fits_g_reify : (bs.all fun bEq => bs.all fun v2 => bs.all fun v3 => bs.all fun c0 => bs.all fun c2 => bs.all fun mV => bs.all fun mC => bs.all fun z => bs.all fun nC => gives Tryd.prog (fOps bEq v2 v3 c0 c2) (fOrc mV mC z nC) fTab [] 50 20 5 59 [.agg ⟨[.string ⟨#[114, 101, 105, 102, 121]⟩, .chan (some 0), .chan (some 1), .chan (some 2)]⟩] (.bool (v3 && c0 && nC))) = true := by kernel_rfl
theorem fits_reify (x : ByteArray) (vs cs : List Int) (n : Int) (A B : Option Addr) (c1 c2 : Nat) (w : World) (hx : x.toList = [114, 101, 105, 102, 121]) (hb : Ints w B cs) :
    Calls Tryd.prog 59 #[.agg #[.string x, .slice A vs.length c1, .slice B cs.length c2, .int .i64 n]] w fun e w' => e = .returned (.bool (((vs.length : Int) == 3) && ((cs.length : Int) == 0) && coefB n)) ∧ Below w.heap.size w w' := by
  obtain rfl : x = ⟨#[114, 101, 105, 102, 121]⟩ := by
    obtain ⟨⟨d⟩⟩ := x; rw [Lib.toList_data] at hx; obtain rfl : d = _ := hx; rfl
  have s : ∀ r, r < 5 → VR (symφ (iW w (fEnv vs cs n A B c1 c2) (fEnv_one vs cs n A B c1 c2))) (.chan (some r)) ((fEnv vs cs n A B c1 c2).getD r (.int .i64 0)) := fun r hr => VR.sym (symφ_sy (iW w (fEnv vs cs n A B c1 c2) (fEnv_one vs cs n A B c1 c2))) hr
  refine run_rel (w0 := iW w (fEnv vs cs n A B c1 c2) (fEnv_one vs cs n A B c1 c2)) mixed fTab_ok xtab_nil (Nat.le_refl _) (fOps_ok vs cs n A B c1 c2) (fOrc_ok vs cs n A B c1 c2 hb) (LR.cons (VR.agg_iff.2 (LR.cons (.leaf (by decide +kernel)) (LR.cons (s 0 (by decide)) (LR.cons (s 1 (by decide)) (LR.cons (s 2 (by decide)) LR.nil))))) LR.nil) rfl (bs_all (bs_all (bs_all (bs_all (bs_all (bs_all (bs_all (bs_all (bs_all fits_g_reify (((cs.length : Int) == (vs.length : Int)))) (((vs.length : Int) == 2))) (((vs.length : Int) == 3))) (((cs.length : Int) == 0))) (((cs.length : Int) == 2))) (manyB vs.length)) (manyB cs.length)) ((cs.any fun x => x == 0))) (coefB n))
set_option maxRecDepth 100000 in
theorem fits_g_element : (bs.all fun bEq => bs.all fun v2 => bs.all fun v3 => bs.all fun c0 => bs.all fun c2 => bs.all fun mV => bs.all fun mC => bs.all fun z => bs.all fun nC => gives Tryd.prog (fOps bEq v2 v3 c0 c2) (fOrc mV mC z nC) fTab [] 50 20 5 59 [.agg ⟨[.string ⟨#[101, 108, 101, 109, 101, 110, 116]⟩, .chan (some 0), .chan (some 1), .chan (some 2)]⟩] (.bool (v2 && mC))) = true := by kernel_rfl
theorem fits_element (x : ByteArray) (vs cs : List Int) (n : Int) (A B : Option Addr) (c1 c2 : Nat) (w : World) (hx : x.toList = [101, 108, 101, 109, 101, 110, 116]) (hb : Ints w B cs) :
    Calls Tryd.prog 59 #[.agg #[.string x, .slice A vs.length c1, .slice B cs.length c2, .int .i64 n]] w fun e w' => e = .returned (.bool (((vs.length : Int) == 2) && manyB cs.length)) ∧ Below w.heap.size w w' := by
  obtain rfl : x = ⟨#[101, 108, 101, 109, 101, 110, 116]⟩ := by
    obtain ⟨⟨d⟩⟩ := x; rw [Lib.toList_data] at hx; obtain rfl : d = _ := hx; rfl
  have s : ∀ r, r < 5 → VR (symφ (iW w (fEnv vs cs n A B c1 c2) (fEnv_one vs cs n A B c1 c2))) (.chan (some r)) ((fEnv vs cs n A B c1 c2).getD r (.int .i64 0)) := fun r hr => VR.sym (symφ_sy (iW w (fEnv vs cs n A B c1 c2) (fEnv_one vs cs n A B c1 c2))) hr
  refine run_rel (w0 := iW w (fEnv vs cs n A B c1 c2) (fEnv_one vs cs n A B c1 c2)) mixed fTab_ok xtab_nil (Nat.le_refl _) (fOps_ok vs cs n A B c1 c2) (fOrc_ok vs cs n A B c1 c2 hb) (LR.cons (VR.agg_iff.2 (LR.cons (.leaf (by decide +kernel)) (LR.cons (s 0 (by decide)) (LR.cons (s 1 (by decide)) (LR.cons (s 2 (by decide)) LR.nil))))) LR.nil) rfl (bs_all (bs_all (bs_all (bs_all (bs_all (bs_all (bs_all (bs_all (bs_all fits_g_element (((cs.length : Int) == (vs.length : Int)))) (((vs.length : Int) == 2))) (((vs.length : Int) == 3))) (((cs.length : Int) == 0))) (((cs.length : Int) == 2))) (manyB vs.length)) (manyB cs.length)) ((cs.any fun x => x == 0))) (coefB n))
set_option maxRecDepth 100000 in
theorem fits_g_none : (bs.all fun bEq => bs.all fun v2 => bs.all fun v3 => bs.all fun c0 => bs.all fun c2 => bs.all fun mV => bs.all fun mC => bs.all fun z => bs.all fun nC => gives Tryd.prog (fOps bEq v2 v3 c0 c2) (fOrc mV mC z nC) fTab [] 50 20 5 59 [.agg ⟨[.string ⟨#[255, 255, 255, 115, 117, 109, 255, 109, 111, 115, 116, 255, 100, 105, 115, 116, 105, 110, 99, 116, 255, 117, 110, 108, 105, 107, 101, 255, 112, 114, 111, 100, 117, 99, 116, 255, 109, 97, 120, 255, 114, 101, 105, 102, 121, 255, 101, 108, 101, 109, 101, 110, 116, 255, 97, 112, 97, 114, 116, 255]⟩, .chan (some 0), .chan (some 1), .chan (some 2)]⟩] (.bool (false))) = true := by kernel_rfl
theorem fits_none (x : ByteArray) (vs cs : List Int) (n : Int) (A B : Option Addr) (c1 c2 : Nat) (w : World) (k_sum : x.toList ≠ [115, 117, 109]) (k_most : x.toList ≠ [109, 111, 115, 116]) (k_distinct : x.toList ≠ [100, 105, 115, 116, 105, 110, 99, 116]) (k_unlike : x.toList ≠ [117, 110, 108, 105, 107, 101]) (k_product : x.toList ≠ [112, 114, 111, 100, 117, 99, 116]) (k_max : x.toList ≠ [109, 97, 120]) (k_reify : x.toList ≠ [114, 101, 105, 102, 121]) (k_element : x.toList ≠ [101, 108, 101, 109, 101, 110, 116]) (k_apart : x.toList ≠ [97, 112, 97, 114, 116]) (hb : Ints w B cs) :
    Calls Tryd.prog 59 #[.agg #[.string x, .slice A vs.length c1, .slice B cs.length c2, .int .i64 n]] w fun e w' => e = .returned (.bool (false)) ∧ Below w.heap.size w w' := by
  have s : ∀ r, r < 5 → VR (symφ (iW w (fEnv vs cs n A B c1 c2) (fEnv_one vs cs n A B c1 c2))) (.chan (some r)) ((fEnv vs cs n A B c1 c2).getD r (.int .i64 0)) := fun r hr => VR.sym (symφ_sy (iW w (fEnv vs cs n A B c1 c2) (fEnv_one vs cs n A B c1 c2))) hr
  refine run_rel (w0 := iW w (fEnv vs cs n A B c1 c2) (fEnv_one vs cs n A B c1 c2)) mixed fTab_ok xtab_nil (Nat.le_refl _) (fOps_ok vs cs n A B c1 c2) (fOrc_ok vs cs n A B c1 c2 hb) (LR.cons (VR.agg_iff.2 (LR.cons (VR.opq (m := ⟨#[255, 255, 255, 115, 117, 109, 255, 109, 111, 115, 116, 255, 100, 105, 115, 116, 105, 110, 99, 116, 255, 117, 110, 108, 105, 107, 101, 255, 112, 114, 111, 100, 117, 99, 116, 255, 109, 97, 120, 255, 114, 101, 105, 102, 121, 255, 101, 108, 101, 109, 101, 110, 116, 255, 97, 112, 97, 114, 116, 255]⟩) (by decide +kernel) (fun c hc => ?_)) (LR.cons (s 0 (by decide)) (LR.cons (s 1 (by decide)) (LR.cons (s 2 (by decide)) LR.nil))))) LR.nil) rfl (bs_all (bs_all (bs_all (bs_all (bs_all (bs_all (bs_all (bs_all (bs_all fits_g_none (((cs.length : Int) == (vs.length : Int)))) (((vs.length : Int) == 2))) (((vs.length : Int) == 3))) (((cs.length : Int) == 0))) (((cs.length : Int) == 2))) (manyB vs.length)) (manyB cs.length)) ((cs.any fun x => x == 0))) (coefB n))
  rw [← Lib.toList_data]
  have : farWords ⟨#[255, 255, 255, 115, 117, 109, 255, 109, 111, 115, 116, 255, 100, 105, 115, 116, 105, 110, 99, 116, 255, 117, 110, 108, 105, 107, 101, 255, 112, 114, 111, 100, 117, 99, 116, 255, 109, 97, 120, 255, 114, 101, 105, 102, 121, 255, 101, 108, 101, 109, 101, 110, 116, 255, 97, 112, 97, 114, 116, 255]⟩ = [[115, 117, 109], [109, 111, 115, 116], [100, 105, 115, 116, 105, 110, 99, 116], [117, 110, 108, 105, 107, 101], [112, 114, 111, 100, 117, 99, 116], [109, 97, 120], [114, 101, 105, 102, 121], [101, 108, 101, 109, 101, 110, 116], [97, 112, 97, 114, 116]] := by decide +kernel
  rw [this] at hc
  simp only [List.mem_cons, List.not_mem_nil, or_false] at hc
  rcases hc with rfl | rfl | rfl | rfl | rfl | rfl | rfl | rfl | rfl <;> assumption
end Go.Proofs.YtpejolnjnkcolaaDoor
