/-
  Whether a propagator holds: the program's own answer, kind by kind.
-/
import Derived.Test.YtpejolnjnkcolaaDoorHpB
import Derived.Test.YtpejolnjnkcolaaDoorHpC
import Derived.Test.YtpejolnjnkcolaaDoorHpF
import Derived.Test.YtpejolnjnkcolaaDoorEvM8
namespace Go.Proofs.YtpejolnjnkcolaaDoor
open Go Go.RowKit Go.Ev

theorem wide_same (X Y : Int) : (X / 18446744073709551616 == Y / 18446744073709551616 && X % 18446744073709551616 == Y % 18446744073709551616) = decide (X = Y) := by
  rw [Bool.eq_iff_iff, Bool.and_eq_true, beq_iff_eq, beq_iff_eq, decide_eq_true_iff]
  omega
set_option maxRecDepth 100000 in
theorem run_inW (a b c d : Int) (w : World) : (Op.equalIn 10000 85 (.agg #[.int .i64 a, .int .u64 b]) (.agg #[.int .i64 c, .int .u64 d])).run Tryd.prog w = .ok (a == c && b == d) w := by
  have hp : Tryd.prog.stoodInHeld 85 = false := by kernel_rfl
  have ht : Tryd.prog.underlying 85 = some (.struct (Tryd.prog.fieldsOf 85)) := by kernel_rfl
  rw [run_equalIn_struct _ 9999 _ _ _ ht hp]
  have e1 : ∀ a b : Int, (Op.equalIn 9999 2 (.int .i64 a) (.int .i64 b)).run Tryd.prog w = .ok (a == b) w := fun a b => run_equalIn_int (P := Tryd.prog) w 9998 2 .i64 .i64 a b Tryd.underlying2
  have e2 : ∀ a b : Int, (Op.equalIn 9999 46 (.int .u64 a) (.int .u64 b)).run Tryd.prog w = .ok (a == b) w := fun a b => run_equalIn_int (P := Tryd.prog) w 9998 46 .u64 .u64 a b Tryd.underlying46
  have hf : ∃ f1 f2 : Field, (Tryd.prog.fieldsOf 85).toList = [f1, f2] ∧ f1.name ≠ "_" ∧ f2.name ≠ "_" ∧ f1.type = 2 ∧ f2.type = 46 ∧ f1.offset = 0 ∧ f2.offset = 1 := ⟨(Tryd.prog.fieldsOf 85)[0]!, (Tryd.prog.fieldsOf 85)[1]!, by kernel_rfl, by decide +kernel, by decide +kernel, by kernel_rfl, by kernel_rfl, by kernel_rfl, by kernel_rfl⟩
  obtain ⟨f1, f2, hl, n1, n2, t1, t2, o1, o2⟩ := hf
  have a1 : (isAgg 2).run Tryd.prog w = .ok false w := by simp [isAgg, run_underlying Tryd.underlying2]
  have a2 : (isAgg 46).run Tryd.prog w = .ok false w := by simp [isAgg, run_underlying Tryd.underlying46]
  have p0 : ∀ (n m : Int), (Go.part 2 #[.int .i64 n, .int .u64 m] 0).run Tryd.prog w = .ok (.int .i64 n) w := fun n m => by simp [Go.part, a1]
  have p1 : ∀ (n m : Int), (Go.part 46 #[.int .i64 n, .int .u64 m] 1).run Tryd.prog w = .ok (.int .u64 m) w := fun n m => by simp [Go.part, a2]
  rw [hl]
  simp only [Op.eqFields, n1, n2, ne_eq, not_false_eq_true, if_true, t1, t2, o1, o2, Sem.run_bind, p0, e1, Result.andThen_ok]
  cases h : a == c
  · simp
  · simp only [Bool.not_true, Bool.false_eq_true, if_false, Sem.run_bind, p1, Result.andThen_ok, e2]
    cases h2 : b == d <;> simp
theorem guardW : Tryd.prog.eqGuardType Tryd.prog.depth 85 = false := by kernel_rfl
theorem eql_W (X Y : Int) (xo yo : Operand) (w : World) : (do eqGuard .eql 85 xo yo (wideW X) (wideW Y); binOp .eql 85 (wideW X) (wideW Y) : Sem Value).run Tryd.prog w = .ok (.bool (decide (X = Y))) w := by
  unfold wideW
  rw [Sem.run_bind, run_eqGuard_agg _ _ _ _ _ _ _ guardW]
  simp only [Result.andThen_ok]
  rw [run_eql_struct, run_inW, wide_same]; rfl
theorem neq_W (X Y : Int) (xo yo : Operand) (w : World) : (do eqGuard .neq 85 xo yo (wideW X) (wideW Y); binOp .neq 85 (wideW X) (wideW Y) : Sem Value).run Tryd.prog w = .ok (.bool (!decide (X = Y))) w := by
  unfold wideW
  rw [Sem.run_bind, run_eqGuard_agg _ _ _ _ _ _ _ guardW]
  simp only [Result.andThen_ok]
  rw [run_neq_struct, run_inW, wide_same]; rfl

set_option maxHeartbeats 1000000 in
theorem at_q (k : Nat) (vb vo pb po : Nat) (A D : Option Addr) (vs us : List Int) (c1 c3 : Nat) (w : World) (h : Pl w A D vs us) (hk : k < vs.length) (g1 : w.cell? ⟨vb, vo, none⟩ = some (.slice D us.length c3)) (g2 : w.cell? ⟨pb, po + 1, none⟩ = some (.slice A vs.length c1)) :
    Calls Tryd.prog 63 #[.int .i64 k, .pointer (some ⟨vb, vo, none⟩), .pointer (some ⟨pb, po, none⟩)] w fun e w' => e = .returned (.int .i64 (nthI (pick vs us) k)) ∧ ∃ m, w' = w.drewN m := by
  obtain ⟨ha, hd, hr⟩ := h
  obtain ⟨r1, r2⟩ := hr k hk
  rw [nth_pick hk]
  obtain ⟨b1, o1, rfl, hb1, f1⟩ := ha.2.2 (by omega)
  have x1 := f1 k hk
  obtain ⟨q, hq⟩ : ∃ q : Nat, vs[k] = q := ⟨vs[k].toNat, by omega⟩
  rw [hq] at x1 r1 r2 ⊢
  obtain ⟨b2, o2, rfl, hb2, f2⟩ := hd.2.2 (by omega)
  have x2 := f2 q (by omega)
  have e : nthI us (q : Int).toNat = us[q]'(by omega) := by simp [nthI, List.getD_eq_getElem?_getD, List.getElem?_eq_getElem (show q < us.length by omega)]
  rw [e]
  generalize us[q]'(by omega) = u at *
  have z1 : (k : Int) < (vs.length : Int) := by omega
  have z2 : (0 : Int) ≤ (k : Int) := by omega
  clear f1 f2 hq e ha hd hr
  go_enter Tryd.func63, Tryd.ntmps63
  go_wp2_with fail
  go_quiet (fail)
  go_wp2_with fail
  go_ret
  exact ⟨rfl, _, rfl⟩

/-! ### the calls' answers, by tables -/
def hBase (vs cs us : List Int) (n : Int) (A B D : Option Addr) (c1 c2 c3 : Nat) : List Value :=
  [.slice A vs.length c1, .slice B cs.length c2, .int .i64 n, .slice D us.length c3, .int .i64 (nthI (pick vs us) 0), .int .i64 (nthI (pick vs us) 1), .int .i64 (nthI (pick vs us) 2)]
def isNum : Value → Bool | .int _ _ => true | _ => false
theorem hAll_one (vs cs us : List Int) (n : Int) (A B D : Option Addr) (c1 c2 c3 : Nat) (ext : List Value) (he : ext.all isNum = true) : ∀ v ∈ hBase vs cs us n A B D c1 c2 c3 ++ ext, v.oneCell' = true ∧ v.cells = #[v] := by
  intro v hv
  rcases List.mem_append.1 hv with hv | hv
  · simp only [hBase, List.mem_cons, List.not_mem_nil, or_false] at hv
    rcases hv with rfl | rfl | rfl | rfl | rfl | rfl | rfl <;> exact ⟨rfl, rfl⟩
  · have := List.all_eq_true.1 he v hv
    cases v <;> first | exact ⟨rfl, rfl⟩ | simp [isNum] at this
noncomputable def hTab : Tab := [(42, Tryd.f42)]
theorem hTab_ok : hTab.ok Tryd.prog := hp_tab_cons ⟨Tryd.func42, enters Tryd.func42 (by decide +kernel) (by kernel_rfl)⟩ tab_nil
/-- the value at a place -/
def atO (m : Nat) : Orc := fun k args st => if Nat.beq k 63 then (match args with
  | [.int .i64 (.ofNat j), .pointer (some vb), .pointer (some pb)] => (match aloadCells st vb 1, aloadCells st pb 4 with
    | some [.chan (some 3)], some [_, .chan (some 0), _, _] => if Nat.blt j m && Nat.blt j 3 then some (.chan (some (4 + j))) else none
    | _, _ => none)
  | _ => none) else none
theorem ptr_at {w0 : W0} {φ : Pm} {st : St} {w : World} (H : HR w0 φ st w) {a a' : Addr} (ha : AR φ a a') {n : Nat} {l : List Value} (h : aloadCells st a n = some l) : ∃ b o, a' = ⟨b, o, none⟩ := by
  have key : ∀ ob, st.heap.get a.block = some ob → ∃ b o, a' = ⟨b, o, none⟩ := fun ob hob => by
    obtain ⟨QB, qo, QS, qg, qs, j1, j2, j3⟩ := H.obj _ _ hob ha.ne
    have ha2 := ha
    unfold AR at ha2
    simp only [j1] at ha2
    obtain ⟨-, rfl⟩ := ha2
    exact ⟨_, _, rfl⟩
  unfold aloadCells at h
  split at h
  · rename_i hcs; exact key _ hcs
  · rename_i hcs; exact key _ hcs
  · cases h
theorem atO_ok {w : World} {vs cs us : List Int} {n : Int} {A B D : Option Addr} {c1 c2 c3 : Nat} {ext : List Value} {he : ∀ v ∈ hBase vs cs us n A B D c1 c2 c3 ++ ext, v.oneCell' = true ∧ v.cells = #[v]} (hp : Pl w A D vs us) {m : Nat} (hm : m ≤ vs.length) :
    OrcOk Tryd.prog (iW w (hBase vs cs us n A B D c1 c2 c3 ++ ext) he) (atO m) := by
  intro k args st v h φ args' w1 H hl
  have sy := H.sym
  unfold atO at h
  split at h
  · rename_i hk
    obtain rfl := Nat.eq_of_beq_eq_true hk
    split at h
    · rename_i j vb pb
      split at h
      · rename_i x1 x2 x3 e1 e2
        split at h
        · rename_i hj
          rw [Bool.and_eq_true] at hj
          have h1 : j < m := by have := hj.1; simp [Nat.blt] at this; omega
          have h2 : j < 3 := by have := hj.2; simp [Nat.blt] at this; omega
          cases h
          obtain ⟨y1, y2, y3, rfl, hy1, hy2, hy3⟩ := lr3 hl
          obtain rfl := plain_eq 0 _ _ rfl hy1
          obtain ⟨a2, rfl, ha2⟩ := AR.inv_ptr hy2
          obtain ⟨a3, rfl, ha3⟩ := AR.inv_ptr hy3
          obtain ⟨b2, o2, rfl⟩ := ptr_at H ha2 e1
          obtain ⟨b3, o3, rfl⟩ := ptr_at H ha3 e2
          obtain ⟨l1, q1, q2, q3⟩ := aload_cells H ha2 e1
          obtain ⟨l2, r1, r2, r3⟩ := aload_cells H ha3 e2
          obtain ⟨z, rfl, hz⟩ := lr1 q2
          obtain ⟨u0, u1, u2, u3, rfl⟩ : ∃ u0 u1 u2 u3, l2 = [u0, u1, u2, u3] := by
            rcases l2 with _ | ⟨u0, _ | ⟨u1, _ | ⟨u2, _ | ⟨u3, _ | ⟨u4, l2⟩⟩⟩⟩⟩ <;> simp at r1
            exact ⟨u0, u1, u2, u3, rfl⟩
          have hu := r2.2 1 _ u1 rfl rfl
          have c1' := q3 0 z rfl
          have c2' := r3 1 u1 rfl
          rw [one_sym sy hz] at c1'
          rw [one_sym sy hu] at c2'
          rw [Addr.add_zero'] at c1'
          rw [Addr.add_lit] at c2'
          refine ⟨fun w => enters Tryd.func63 (by decide +kernel) (by kernel_rfl) _ w, Calls.mono (at_q j b2 o2 b3 o3 A D vs us c1 c3 w1 (hp.over H.below) (by omega) c1' c2') ?_⟩
          rintro e w' ⟨rfl, m', rfl⟩
          refine ⟨⟨_, rfl, ?_⟩, below_drewN (Below.refl _ _) _⟩
          have lt : 4 + j < (iW w (hBase vs cs us n A B D c1 c2 c3 ++ ext) he).m := by show 4 + j < (hBase vs cs us n A B D c1 c2 c3 ++ ext).length; simp [hBase]; omega
          have := VR.sym sy lt
          have e3 : (iW w (hBase vs cs us n A B D c1 c2 c3 ++ ext) he).env (4 + j) = .int .i64 (nthI (pick vs us) j) := by
            match j, h2 with
            | 0, _ => rfl
            | 1, _ => rfl
            | 2, _ => rfl
          rw [e3] at this
          exact this
        · cases h
      · cases h
    · cases h
  · cases h
theorem reify_same (a b c n : Int) : (decide (a = 1) && decide (b - c ≤ n) || decide (a = 0) && !decide (b - c ≤ n)) = (decide (c + n < b) && (a == 0) || !decide (c + n < b) && (a == 1)) := by
  rw [Bool.eq_iff_iff]
  simp only [Bool.or_eq_true, Bool.and_eq_true, decide_eq_true_eq, Bool.not_eq_true', decide_eq_false_iff_not, beq_iff_eq]
  omega
theorem i64_nth {vs us : List Int} (h : ∀ x ∈ us, -9223372036854775808 ≤ x ∧ x ≤ 9223372036854775807) (k : Nat) : -9223372036854775808 ≤ nthI (pick vs us) k ∧ nthI (pick vs us) k ≤ 9223372036854775807 := nth_range (pick_range h) k
def ents_sum (c : Bool) : List Ent := [⟨64, [.agg ⟨[.string ⟨#[115, 117, 109]⟩, .chan (some 0), .chan (some 1), .chan (some 2)]⟩, .chan (some 3)], .agg ⟨[.chan (some 7), .chan (some 8)]⟩⟩, ⟨65, [.chan (some 2)], .agg ⟨[.chan (some 9), .chan (some 10)]⟩⟩]
def bins_sum (c : Bool) : List BinE := [⟨.eql, 85, .agg ⟨[.chan (some 7), .chan (some 8)]⟩, .agg ⟨[.chan (some 9), .chan (some 10)]⟩, .bool c⟩]
set_option maxRecDepth 100000 in
theorem hold_g_sum : (bs.all fun c => gives Tryd.prog (binO (bins_sum c)) (orO (atO 0) (entO (ents_sum c))) hTab [] 50 20 11 42 [.agg ⟨[.string ⟨#[115, 117, 109]⟩, .chan (some 0), .chan (some 1), .chan (some 2)]⟩, .chan (some 3)] (.bool (c))) = true := by kernel_rfl
set_option maxRecDepth 100000 in
theorem hold_sum (x : ByteArray) (vs cs us : List Int) (n : Int) (A B D : Option Addr) (c1 c2 c3 : Nat) (w : World) (hx : x.toList = [115, 117, 109]) (hp : Pl w A D vs us) (hb : Ints w B cs) (hn : -9223372036854775808 ≤ n ∧ n ≤ 9223372036854775807) (hl : vs.length ≤ 100) (hm : 0 ≤ vs.length) (hvc : vs.length ≤ cs.length) (hc : ∀ x ∈ cs, -1000000 ≤ x ∧ x ≤ 1000000) :
    Calls Tryd.prog 42 #[.agg #[.string x, .slice A vs.length c1, .slice B cs.length c2, .int .i64 n], .slice D us.length c3] w fun e w' => e = .returned (.bool (decide (dot cs (pick vs us) = n))) ∧ Below w.heap.size w w' := by
  obtain rfl : x = ⟨#[115, 117, 109]⟩ := by
    obtain ⟨⟨d⟩⟩ := x; rw [Lib.toList_data] at hx; obtain rfl : d = _ := hx; rfl
  have h0 := i64_nth (vs := vs) hp.d.2.1 0
  have h1 := i64_nth (vs := vs) hp.d.2.1 1
  have h2 := i64_nth (vs := vs) hp.d.2.1 2
  have he := hAll_one vs cs us n A B D c1 c2 c3 ([Value.int .i64 ((dot cs (pick vs us)) / 18446744073709551616), Value.int .u64 ((dot cs (pick vs us)) % 18446744073709551616), Value.int .i64 ((n) / 18446744073709551616), Value.int .u64 ((n) % 18446744073709551616)] : List Value) (by rfl)
  have s : ∀ r, r < 11 → VR (symφ (iW w (hBase vs cs us n A B D c1 c2 c3 ++ ([Value.int .i64 ((dot cs (pick vs us)) / 18446744073709551616), Value.int .u64 ((dot cs (pick vs us)) % 18446744073709551616), Value.int .i64 ((n) / 18446744073709551616), Value.int .u64 ((n) % 18446744073709551616)] : List Value)) he)) (.chan (some r)) ((hBase vs cs us n A B D c1 c2 c3 ++ ([Value.int .i64 ((dot cs (pick vs us)) / 18446744073709551616), Value.int .u64 ((dot cs (pick vs us)) % 18446744073709551616), Value.int .i64 ((n) / 18446744073709551616), Value.int .u64 ((n) % 18446744073709551616)] : List Value)).getD r (.int .i64 0)) := fun r hr => VR.sym (symφ_sy (iW w (hBase vs cs us n A B D c1 c2 c3 ++ ([Value.int .i64 ((dot cs (pick vs us)) / 18446744073709551616), Value.int .u64 ((dot cs (pick vs us)) % 18446744073709551616), Value.int .i64 ((n) / 18446744073709551616), Value.int .u64 ((n) % 18446744073709551616)] : List Value)) he)) hr
  have hen : ∀ e ∈ ents_sum (decide (dot cs (pick vs us) = n)), e.Ok Tryd.prog (iW w (hBase vs cs us n A B D c1 c2 c3 ++ ([Value.int .i64 ((dot cs (pick vs us)) / 18446744073709551616), Value.int .u64 ((dot cs (pick vs us)) % 18446744073709551616), Value.int .i64 ((n) / 18446744073709551616), Value.int .u64 ((n) % 18446744073709551616)] : List Value)) he) := by
    intro e he2
    simp only [ents_sum, List.mem_cons, List.not_mem_nil, or_false] at he2
    rcases he2 with rfl | rfl
    · exact ⟨by first | rfl | kernel_rfl, by first | rfl | kernel_rfl, enters Tryd.func64 (by decide +kernel) (by kernel_rfl), fun w' hbw => weighed_any _ n A B D vs cs us c1 c2 c3 w' (hp.over hbw) (hb.over hbw) hvc hc hl⟩
    · exact ⟨by first | rfl | kernel_rfl, by first | rfl | kernel_rfl, enters Tryd.func65 (by decide +kernel) (by kernel_rfl), fun w' hbw => wideOf_any n w' hn⟩
  have hbi : ∀ e ∈ bins_sum (decide (dot cs (pick vs us) = n)), e.Ok Tryd.prog (iW w (hBase vs cs us n A B D c1 c2 c3 ++ ([Value.int .i64 ((dot cs (pick vs us)) / 18446744073709551616), Value.int .u64 ((dot cs (pick vs us)) % 18446744073709551616), Value.int .i64 ((n) / 18446744073709551616), Value.int .u64 ((n) % 18446744073709551616)] : List Value)) he) := by
    intro e he2
    simp only [bins_sum, List.mem_cons, List.not_mem_nil, or_false] at he2
    subst he2
    · exact ⟨by first | rfl | kernel_rfl, by first | rfl | kernel_rfl, by first | rfl | kernel_rfl, fun xo yo w' => eql_W (dot cs (pick vs us)) n xo yo w'⟩
  have G := run_rel (w0 := iW w (hBase vs cs us n A B D c1 c2 c3 ++ ([Value.int .i64 ((dot cs (pick vs us)) / 18446744073709551616), Value.int .u64 ((dot cs (pick vs us)) % 18446744073709551616), Value.int .i64 ((n) / 18446744073709551616), Value.int .u64 ((n) % 18446744073709551616)] : List Value)) he) mixed hTab_ok xtab_nil (Nat.le_refl _) (binO_ok hbi) (orO_ok (atO_ok hp hm) (entO_ok hen)) (LR.cons (VR.agg_iff.2 (LR.cons (.leaf (by decide +kernel)) (LR.cons (s 0 (by decide)) (LR.cons (s 1 (by decide)) (LR.cons (s 2 (by decide)) LR.nil))))) (LR.cons (s 3 (by decide)) LR.nil)) rfl (bs_all hold_g_sum (decide (dot cs (pick vs us) = n)))
  exact G
def ents_most (c : Bool) : List Ent := [⟨64, [.agg ⟨[.string ⟨#[109, 111, 115, 116]⟩, .chan (some 0), .chan (some 1), .chan (some 2)]⟩, .chan (some 3)], .agg ⟨[.chan (some 7), .chan (some 8)]⟩⟩, ⟨65, [.chan (some 2)], .agg ⟨[.chan (some 9), .chan (some 10)]⟩⟩, ⟨66, [.agg ⟨[.chan (some 9), .chan (some 10)]⟩, .agg ⟨[.chan (some 7), .chan (some 8)]⟩], .bool c⟩]
def bins_most (c : Bool) : List BinE := []
set_option maxRecDepth 100000 in
theorem hold_g_most : (bs.all fun c => gives Tryd.prog (binO (bins_most c)) (orO (atO 0) (entO (ents_most c))) hTab [] 50 20 11 42 [.agg ⟨[.string ⟨#[109, 111, 115, 116]⟩, .chan (some 0), .chan (some 1), .chan (some 2)]⟩, .chan (some 3)] (.bool (!c))) = true := by kernel_rfl
set_option maxRecDepth 100000 in
theorem hold_most (x : ByteArray) (vs cs us : List Int) (n : Int) (A B D : Option Addr) (c1 c2 c3 : Nat) (w : World) (hx : x.toList = [109, 111, 115, 116]) (hp : Pl w A D vs us) (hb : Ints w B cs) (hn : -9223372036854775808 ≤ n ∧ n ≤ 9223372036854775807) (hl : vs.length ≤ 100) (hm : 0 ≤ vs.length) (hvc : vs.length ≤ cs.length) (hc : ∀ x ∈ cs, -1000000 ≤ x ∧ x ≤ 1000000) :
    Calls Tryd.prog 42 #[.agg #[.string x, .slice A vs.length c1, .slice B cs.length c2, .int .i64 n], .slice D us.length c3] w fun e w' => e = .returned (.bool (decide (dot cs (pick vs us) ≤ n))) ∧ Below w.heap.size w w' := by
  obtain rfl : x = ⟨#[109, 111, 115, 116]⟩ := by
    obtain ⟨⟨d⟩⟩ := x; rw [Lib.toList_data] at hx; obtain rfl : d = _ := hx; rfl
  have h0 := i64_nth (vs := vs) hp.d.2.1 0
  have h1 := i64_nth (vs := vs) hp.d.2.1 1
  have h2 := i64_nth (vs := vs) hp.d.2.1 2
  have hdb : wBound (dot cs (pick vs us)) := by
    have := part_bound (us := pick vs us) (by simp [pick]; omega) hc (pick_range hp.d.2.1) (by simp [pick]; omega) (pick vs us).length (Nat.le_refl _)
    exact this
  have he := hAll_one vs cs us n A B D c1 c2 c3 ([Value.int .i64 ((dot cs (pick vs us)) / 18446744073709551616), Value.int .u64 ((dot cs (pick vs us)) % 18446744073709551616), Value.int .i64 ((n) / 18446744073709551616), Value.int .u64 ((n) % 18446744073709551616)] : List Value) (by rfl)
  have s : ∀ r, r < 11 → VR (symφ (iW w (hBase vs cs us n A B D c1 c2 c3 ++ ([Value.int .i64 ((dot cs (pick vs us)) / 18446744073709551616), Value.int .u64 ((dot cs (pick vs us)) % 18446744073709551616), Value.int .i64 ((n) / 18446744073709551616), Value.int .u64 ((n) % 18446744073709551616)] : List Value)) he)) (.chan (some r)) ((hBase vs cs us n A B D c1 c2 c3 ++ ([Value.int .i64 ((dot cs (pick vs us)) / 18446744073709551616), Value.int .u64 ((dot cs (pick vs us)) % 18446744073709551616), Value.int .i64 ((n) / 18446744073709551616), Value.int .u64 ((n) % 18446744073709551616)] : List Value)).getD r (.int .i64 0)) := fun r hr => VR.sym (symφ_sy (iW w (hBase vs cs us n A B D c1 c2 c3 ++ ([Value.int .i64 ((dot cs (pick vs us)) / 18446744073709551616), Value.int .u64 ((dot cs (pick vs us)) % 18446744073709551616), Value.int .i64 ((n) / 18446744073709551616), Value.int .u64 ((n) % 18446744073709551616)] : List Value)) he)) hr
  have hen : ∀ e ∈ ents_most (decide (n < dot cs (pick vs us))), e.Ok Tryd.prog (iW w (hBase vs cs us n A B D c1 c2 c3 ++ ([Value.int .i64 ((dot cs (pick vs us)) / 18446744073709551616), Value.int .u64 ((dot cs (pick vs us)) % 18446744073709551616), Value.int .i64 ((n) / 18446744073709551616), Value.int .u64 ((n) % 18446744073709551616)] : List Value)) he) := by
    intro e he2
    simp only [ents_most, List.mem_cons, List.not_mem_nil, or_false] at he2
    rcases he2 with rfl | rfl | rfl
    · exact ⟨by first | rfl | kernel_rfl, by first | rfl | kernel_rfl, enters Tryd.func64 (by decide +kernel) (by kernel_rfl), fun w' hbw => weighed_any _ n A B D vs cs us c1 c2 c3 w' (hp.over hbw) (hb.over hbw) hvc hc hl⟩
    · exact ⟨by first | rfl | kernel_rfl, by first | rfl | kernel_rfl, enters Tryd.func65 (by decide +kernel) (by kernel_rfl), fun w' hbw => wideOf_any n w' hn⟩
    · exact ⟨by first | rfl | kernel_rfl, by first | rfl | kernel_rfl, enters Tryd.func66 (by decide +kernel) (by kernel_rfl), fun w' hbw => isLess_any n (dot cs (pick vs us)) w' (by unfold wBound; omega) hdb⟩
  have hbi : ∀ e ∈ bins_most (decide (n < dot cs (pick vs us))), e.Ok Tryd.prog (iW w (hBase vs cs us n A B D c1 c2 c3 ++ ([Value.int .i64 ((dot cs (pick vs us)) / 18446744073709551616), Value.int .u64 ((dot cs (pick vs us)) % 18446744073709551616), Value.int .i64 ((n) / 18446744073709551616), Value.int .u64 ((n) % 18446744073709551616)] : List Value)) he) := by
    intro e he2
    cases he2
  have G := run_rel (w0 := iW w (hBase vs cs us n A B D c1 c2 c3 ++ ([Value.int .i64 ((dot cs (pick vs us)) / 18446744073709551616), Value.int .u64 ((dot cs (pick vs us)) % 18446744073709551616), Value.int .i64 ((n) / 18446744073709551616), Value.int .u64 ((n) % 18446744073709551616)] : List Value)) he) mixed hTab_ok xtab_nil (Nat.le_refl _) (binO_ok hbi) (orO_ok (atO_ok hp hm) (entO_ok hen)) (LR.cons (VR.agg_iff.2 (LR.cons (.leaf (by decide +kernel)) (LR.cons (s 0 (by decide)) (LR.cons (s 1 (by decide)) (LR.cons (s 2 (by decide)) LR.nil))))) (LR.cons (s 3 (by decide)) LR.nil)) rfl (bs_all hold_g_most (decide (n < dot cs (pick vs us))))
  exact (by rw [show decide (dot cs (pick vs us) ≤ n) = !decide (n < dot cs (pick vs us)) by rw [← decide_not]; exact decide_eq_decide.2 (by omega)]; exact G)
def ents_distinct (c : Bool) : List Ent := [⟨68, [.agg ⟨[.string ⟨#[100, 105, 115, 116, 105, 110, 99, 116]⟩, .chan (some 0), .chan (some 1), .chan (some 2)]⟩, .chan (some 3)], .bool c⟩]
def bins_distinct (c : Bool) : List BinE := []
set_option maxRecDepth 100000 in
theorem hold_g_distinct : (bs.all fun c => gives Tryd.prog (binO (bins_distinct c)) (orO (atO 0) (entO (ents_distinct c))) hTab [] 50 20 7 42 [.agg ⟨[.string ⟨#[100, 105, 115, 116, 105, 110, 99, 116]⟩, .chan (some 0), .chan (some 1), .chan (some 2)]⟩, .chan (some 3)] (.bool (c))) = true := by kernel_rfl
set_option maxRecDepth 100000 in
theorem hold_distinct (x : ByteArray) (vs cs us : List Int) (n : Int) (A B D : Option Addr) (c1 c2 c3 : Nat) (w : World) (hx : x.toList = [100, 105, 115, 116, 105, 110, 99, 116]) (hp : Pl w A D vs us) (hb : Ints w B cs) (hn : -9223372036854775808 ≤ n ∧ n ≤ 9223372036854775807) (hl : vs.length ≤ 100) (hm : 0 ≤ vs.length)  :
    Calls Tryd.prog 42 #[.agg #[.string x, .slice A vs.length c1, .slice B cs.length c2, .int .i64 n], .slice D us.length c3] w fun e w' => e = .returned (.bool (decide (pick vs us).Nodup)) ∧ Below w.heap.size w w' := by
  obtain rfl : x = ⟨#[100, 105, 115, 116, 105, 110, 99, 116]⟩ := by
    obtain ⟨⟨d⟩⟩ := x; rw [Lib.toList_data] at hx; obtain rfl : d = _ := hx; rfl
  have h0 := i64_nth (vs := vs) hp.d.2.1 0
  have h1 := i64_nth (vs := vs) hp.d.2.1 1
  have h2 := i64_nth (vs := vs) hp.d.2.1 2
  have he := hAll_one vs cs us n A B D c1 c2 c3 ([] : List Value) (by rfl)
  have s : ∀ r, r < 7 → VR (symφ (iW w (hBase vs cs us n A B D c1 c2 c3 ++ ([] : List Value)) he)) (.chan (some r)) ((hBase vs cs us n A B D c1 c2 c3 ++ ([] : List Value)).getD r (.int .i64 0)) := fun r hr => VR.sym (symφ_sy (iW w (hBase vs cs us n A B D c1 c2 c3 ++ ([] : List Value)) he)) hr
  have hen : ∀ e ∈ ents_distinct (decide (pick vs us).Nodup), e.Ok Tryd.prog (iW w (hBase vs cs us n A B D c1 c2 c3 ++ ([] : List Value)) he) := by
    intro e he2
    simp only [ents_distinct, List.mem_cons, List.not_mem_nil, or_false] at he2
    subst he2
    · exact ⟨by first | rfl | kernel_rfl, by first | rfl | kernel_rfl, enters Tryd.func68 (by decide +kernel) (by kernel_rfl), fun w' hbw => areDifferent_any _ n A B D vs us cs.length c1 c2 c3 w' (hp.over hbw).a (hp.over hbw).d hp.r hl⟩
  have hbi : ∀ e ∈ bins_distinct (decide (pick vs us).Nodup), e.Ok Tryd.prog (iW w (hBase vs cs us n A B D c1 c2 c3 ++ ([] : List Value)) he) := by
    intro e he2
    cases he2
  have G := run_rel (w0 := iW w (hBase vs cs us n A B D c1 c2 c3 ++ ([] : List Value)) he) mixed hTab_ok xtab_nil (Nat.le_refl _) (binO_ok hbi) (orO_ok (atO_ok hp hm) (entO_ok hen)) (LR.cons (VR.agg_iff.2 (LR.cons (.leaf (by decide +kernel)) (LR.cons (s 0 (by decide)) (LR.cons (s 1 (by decide)) (LR.cons (s 2 (by decide)) LR.nil))))) (LR.cons (s 3 (by decide)) LR.nil)) rfl (bs_all hold_g_distinct (decide (pick vs us).Nodup))
  exact G
def ents_unlike (c : Bool) : List Ent := [⟨67, [.chan (some 4), .chan (some 2)], .agg ⟨[.chan (some 7), .chan (some 8)]⟩⟩, ⟨65, [.chan (some 5)], .agg ⟨[.chan (some 9), .chan (some 10)]⟩⟩]
def bins_unlike (c : Bool) : List BinE := [⟨.neq, 85, .agg ⟨[.chan (some 7), .chan (some 8)]⟩, .agg ⟨[.chan (some 9), .chan (some 10)]⟩, .bool c⟩]
set_option maxRecDepth 100000 in
theorem hold_g_unlike : (bs.all fun c => gives Tryd.prog (binO (bins_unlike c)) (orO (atO 2) (entO (ents_unlike c))) hTab [] 50 20 11 42 [.agg ⟨[.string ⟨#[117, 110, 108, 105, 107, 101]⟩, .chan (some 0), .chan (some 1), .chan (some 2)]⟩, .chan (some 3)] (.bool (c))) = true := by kernel_rfl
set_option maxRecDepth 100000 in
theorem hold_unlike (x : ByteArray) (vs cs us : List Int) (n : Int) (A B D : Option Addr) (c1 c2 c3 : Nat) (w : World) (hx : x.toList = [117, 110, 108, 105, 107, 101]) (hp : Pl w A D vs us) (hb : Ints w B cs) (hn : -9223372036854775808 ≤ n ∧ n ≤ 9223372036854775807) (hl : vs.length ≤ 100) (hm : 2 ≤ vs.length)  :
    Calls Tryd.prog 42 #[.agg #[.string x, .slice A vs.length c1, .slice B cs.length c2, .int .i64 n], .slice D us.length c3] w fun e w' => e = .returned (.bool (decide (nthI (pick vs us) 1 - nthI (pick vs us) 0 ≠ n))) ∧ Below w.heap.size w w' := by
  obtain rfl : x = ⟨#[117, 110, 108, 105, 107, 101]⟩ := by
    obtain ⟨⟨d⟩⟩ := x; rw [Lib.toList_data] at hx; obtain rfl : d = _ := hx; rfl
  have h0 := i64_nth (vs := vs) hp.d.2.1 0
  have h1 := i64_nth (vs := vs) hp.d.2.1 1
  have h2 := i64_nth (vs := vs) hp.d.2.1 2
  have he := hAll_one vs cs us n A B D c1 c2 c3 ([Value.int .i64 ((nthI (pick vs us) 0 + n) / 18446744073709551616), Value.int .u64 ((nthI (pick vs us) 0 + n) % 18446744073709551616), Value.int .i64 ((nthI (pick vs us) 1) / 18446744073709551616), Value.int .u64 ((nthI (pick vs us) 1) % 18446744073709551616)] : List Value) (by rfl)
  have s : ∀ r, r < 11 → VR (symφ (iW w (hBase vs cs us n A B D c1 c2 c3 ++ ([Value.int .i64 ((nthI (pick vs us) 0 + n) / 18446744073709551616), Value.int .u64 ((nthI (pick vs us) 0 + n) % 18446744073709551616), Value.int .i64 ((nthI (pick vs us) 1) / 18446744073709551616), Value.int .u64 ((nthI (pick vs us) 1) % 18446744073709551616)] : List Value)) he)) (.chan (some r)) ((hBase vs cs us n A B D c1 c2 c3 ++ ([Value.int .i64 ((nthI (pick vs us) 0 + n) / 18446744073709551616), Value.int .u64 ((nthI (pick vs us) 0 + n) % 18446744073709551616), Value.int .i64 ((nthI (pick vs us) 1) / 18446744073709551616), Value.int .u64 ((nthI (pick vs us) 1) % 18446744073709551616)] : List Value)).getD r (.int .i64 0)) := fun r hr => VR.sym (symφ_sy (iW w (hBase vs cs us n A B D c1 c2 c3 ++ ([Value.int .i64 ((nthI (pick vs us) 0 + n) / 18446744073709551616), Value.int .u64 ((nthI (pick vs us) 0 + n) % 18446744073709551616), Value.int .i64 ((nthI (pick vs us) 1) / 18446744073709551616), Value.int .u64 ((nthI (pick vs us) 1) % 18446744073709551616)] : List Value)) he)) hr
  have hen : ∀ e ∈ ents_unlike (!decide (nthI (pick vs us) 0 + n = nthI (pick vs us) 1)), e.Ok Tryd.prog (iW w (hBase vs cs us n A B D c1 c2 c3 ++ ([Value.int .i64 ((nthI (pick vs us) 0 + n) / 18446744073709551616), Value.int .u64 ((nthI (pick vs us) 0 + n) % 18446744073709551616), Value.int .i64 ((nthI (pick vs us) 1) / 18446744073709551616), Value.int .u64 ((nthI (pick vs us) 1) % 18446744073709551616)] : List Value)) he) := by
    intro e he2
    simp only [ents_unlike, List.mem_cons, List.not_mem_nil, or_false] at he2
    rcases he2 with rfl | rfl
    · exact ⟨by first | rfl | kernel_rfl, by first | rfl | kernel_rfl, enters Tryd.func67 (by decide +kernel) (by kernel_rfl), fun w' hbw => sumOf_any (nthI (pick vs us) 0) n w' h0 hn⟩
    · exact ⟨by first | rfl | kernel_rfl, by first | rfl | kernel_rfl, enters Tryd.func65 (by decide +kernel) (by kernel_rfl), fun w' hbw => wideOf_any (nthI (pick vs us) 1) w' h1⟩
  have hbi : ∀ e ∈ bins_unlike (!decide (nthI (pick vs us) 0 + n = nthI (pick vs us) 1)), e.Ok Tryd.prog (iW w (hBase vs cs us n A B D c1 c2 c3 ++ ([Value.int .i64 ((nthI (pick vs us) 0 + n) / 18446744073709551616), Value.int .u64 ((nthI (pick vs us) 0 + n) % 18446744073709551616), Value.int .i64 ((nthI (pick vs us) 1) / 18446744073709551616), Value.int .u64 ((nthI (pick vs us) 1) % 18446744073709551616)] : List Value)) he) := by
    intro e he2
    simp only [bins_unlike, List.mem_cons, List.not_mem_nil, or_false] at he2
    subst he2
    · exact ⟨by first | rfl | kernel_rfl, by first | rfl | kernel_rfl, by first | rfl | kernel_rfl, fun xo yo w' => neq_W (nthI (pick vs us) 0 + n) (nthI (pick vs us) 1) xo yo w'⟩
  have G := run_rel (w0 := iW w (hBase vs cs us n A B D c1 c2 c3 ++ ([Value.int .i64 ((nthI (pick vs us) 0 + n) / 18446744073709551616), Value.int .u64 ((nthI (pick vs us) 0 + n) % 18446744073709551616), Value.int .i64 ((nthI (pick vs us) 1) / 18446744073709551616), Value.int .u64 ((nthI (pick vs us) 1) % 18446744073709551616)] : List Value)) he) mixed hTab_ok xtab_nil (Nat.le_refl _) (binO_ok hbi) (orO_ok (atO_ok hp hm) (entO_ok hen)) (LR.cons (VR.agg_iff.2 (LR.cons (.leaf (by decide +kernel)) (LR.cons (s 0 (by decide)) (LR.cons (s 1 (by decide)) (LR.cons (s 2 (by decide)) LR.nil))))) (LR.cons (s 3 (by decide)) LR.nil)) rfl (bs_all hold_g_unlike (!decide (nthI (pick vs us) 0 + n = nthI (pick vs us) 1)))
  exact (by rw [show decide (nthI (pick vs us) 1 - nthI (pick vs us) 0 ≠ n) = !decide (nthI (pick vs us) 0 + n = nthI (pick vs us) 1) by rw [← decide_not]; exact decide_eq_decide.2 (by omega)]; exact G)
def ents_product (c : Bool) : List Ent := [⟨69, [.chan (some 4), .chan (some 5)], .agg ⟨[.chan (some 7), .chan (some 8)]⟩⟩, ⟨65, [.chan (some 6)], .agg ⟨[.chan (some 9), .chan (some 10)]⟩⟩]
def bins_product (c : Bool) : List BinE := [⟨.eql, 85, .agg ⟨[.chan (some 7), .chan (some 8)]⟩, .agg ⟨[.chan (some 9), .chan (some 10)]⟩, .bool c⟩]
set_option maxRecDepth 100000 in
theorem hold_g_product : (bs.all fun c => gives Tryd.prog (binO (bins_product c)) (orO (atO 3) (entO (ents_product c))) hTab [] 50 20 11 42 [.agg ⟨[.string ⟨#[112, 114, 111, 100, 117, 99, 116]⟩, .chan (some 0), .chan (some 1), .chan (some 2)]⟩, .chan (some 3)] (.bool (c))) = true := by kernel_rfl
set_option maxRecDepth 100000 in
theorem hold_product (x : ByteArray) (vs cs us : List Int) (n : Int) (A B D : Option Addr) (c1 c2 c3 : Nat) (w : World) (hx : x.toList = [112, 114, 111, 100, 117, 99, 116]) (hp : Pl w A D vs us) (hb : Ints w B cs) (hn : -9223372036854775808 ≤ n ∧ n ≤ 9223372036854775807) (hl : vs.length ≤ 100) (hm : 3 ≤ vs.length)  :
    Calls Tryd.prog 42 #[.agg #[.string x, .slice A vs.length c1, .slice B cs.length c2, .int .i64 n], .slice D us.length c3] w fun e w' => e = .returned (.bool (decide (nthI (pick vs us) 0 * nthI (pick vs us) 1 = nthI (pick vs us) 2))) ∧ Below w.heap.size w w' := by
  obtain rfl : x = ⟨#[112, 114, 111, 100, 117, 99, 116]⟩ := by
    obtain ⟨⟨d⟩⟩ := x; rw [Lib.toList_data] at hx; obtain rfl : d = _ := hx; rfl
  have h0 := i64_nth (vs := vs) hp.d.2.1 0
  have h1 := i64_nth (vs := vs) hp.d.2.1 1
  have h2 := i64_nth (vs := vs) hp.d.2.1 2
  have he := hAll_one vs cs us n A B D c1 c2 c3 ([Value.int .i64 ((nthI (pick vs us) 0 * nthI (pick vs us) 1) / 18446744073709551616), Value.int .u64 ((nthI (pick vs us) 0 * nthI (pick vs us) 1) % 18446744073709551616), Value.int .i64 ((nthI (pick vs us) 2) / 18446744073709551616), Value.int .u64 ((nthI (pick vs us) 2) % 18446744073709551616)] : List Value) (by rfl)
  have s : ∀ r, r < 11 → VR (symφ (iW w (hBase vs cs us n A B D c1 c2 c3 ++ ([Value.int .i64 ((nthI (pick vs us) 0 * nthI (pick vs us) 1) / 18446744073709551616), Value.int .u64 ((nthI (pick vs us) 0 * nthI (pick vs us) 1) % 18446744073709551616), Value.int .i64 ((nthI (pick vs us) 2) / 18446744073709551616), Value.int .u64 ((nthI (pick vs us) 2) % 18446744073709551616)] : List Value)) he)) (.chan (some r)) ((hBase vs cs us n A B D c1 c2 c3 ++ ([Value.int .i64 ((nthI (pick vs us) 0 * nthI (pick vs us) 1) / 18446744073709551616), Value.int .u64 ((nthI (pick vs us) 0 * nthI (pick vs us) 1) % 18446744073709551616), Value.int .i64 ((nthI (pick vs us) 2) / 18446744073709551616), Value.int .u64 ((nthI (pick vs us) 2) % 18446744073709551616)] : List Value)).getD r (.int .i64 0)) := fun r hr => VR.sym (symφ_sy (iW w (hBase vs cs us n A B D c1 c2 c3 ++ ([Value.int .i64 ((nthI (pick vs us) 0 * nthI (pick vs us) 1) / 18446744073709551616), Value.int .u64 ((nthI (pick vs us) 0 * nthI (pick vs us) 1) % 18446744073709551616), Value.int .i64 ((nthI (pick vs us) 2) / 18446744073709551616), Value.int .u64 ((nthI (pick vs us) 2) % 18446744073709551616)] : List Value)) he)) hr
  have hen : ∀ e ∈ ents_product (decide (nthI (pick vs us) 0 * nthI (pick vs us) 1 = nthI (pick vs us) 2)), e.Ok Tryd.prog (iW w (hBase vs cs us n A B D c1 c2 c3 ++ ([Value.int .i64 ((nthI (pick vs us) 0 * nthI (pick vs us) 1) / 18446744073709551616), Value.int .u64 ((nthI (pick vs us) 0 * nthI (pick vs us) 1) % 18446744073709551616), Value.int .i64 ((nthI (pick vs us) 2) / 18446744073709551616), Value.int .u64 ((nthI (pick vs us) 2) % 18446744073709551616)] : List Value)) he) := by
    intro e he2
    simp only [ents_product, List.mem_cons, List.not_mem_nil, or_false] at he2
    rcases he2 with rfl | rfl
    · exact ⟨by first | rfl | kernel_rfl, by first | rfl | kernel_rfl, enters Tryd.func69 (by decide +kernel) (by kernel_rfl), fun w' hbw => wtimes_any (nthI (pick vs us) 0) (nthI (pick vs us) 1) w' h0 h1⟩
    · exact ⟨by first | rfl | kernel_rfl, by first | rfl | kernel_rfl, enters Tryd.func65 (by decide +kernel) (by kernel_rfl), fun w' hbw => wideOf_any (nthI (pick vs us) 2) w' h2⟩
  have hbi : ∀ e ∈ bins_product (decide (nthI (pick vs us) 0 * nthI (pick vs us) 1 = nthI (pick vs us) 2)), e.Ok Tryd.prog (iW w (hBase vs cs us n A B D c1 c2 c3 ++ ([Value.int .i64 ((nthI (pick vs us) 0 * nthI (pick vs us) 1) / 18446744073709551616), Value.int .u64 ((nthI (pick vs us) 0 * nthI (pick vs us) 1) % 18446744073709551616), Value.int .i64 ((nthI (pick vs us) 2) / 18446744073709551616), Value.int .u64 ((nthI (pick vs us) 2) % 18446744073709551616)] : List Value)) he) := by
    intro e he2
    simp only [bins_product, List.mem_cons, List.not_mem_nil, or_false] at he2
    subst he2
    · exact ⟨by first | rfl | kernel_rfl, by first | rfl | kernel_rfl, by first | rfl | kernel_rfl, fun xo yo w' => eql_W (nthI (pick vs us) 0 * nthI (pick vs us) 1) (nthI (pick vs us) 2) xo yo w'⟩
  have G := run_rel (w0 := iW w (hBase vs cs us n A B D c1 c2 c3 ++ ([Value.int .i64 ((nthI (pick vs us) 0 * nthI (pick vs us) 1) / 18446744073709551616), Value.int .u64 ((nthI (pick vs us) 0 * nthI (pick vs us) 1) % 18446744073709551616), Value.int .i64 ((nthI (pick vs us) 2) / 18446744073709551616), Value.int .u64 ((nthI (pick vs us) 2) % 18446744073709551616)] : List Value)) he) mixed hTab_ok xtab_nil (Nat.le_refl _) (binO_ok hbi) (orO_ok (atO_ok hp hm) (entO_ok hen)) (LR.cons (VR.agg_iff.2 (LR.cons (.leaf (by decide +kernel)) (LR.cons (s 0 (by decide)) (LR.cons (s 1 (by decide)) (LR.cons (s 2 (by decide)) LR.nil))))) (LR.cons (s 3 (by decide)) LR.nil)) rfl (bs_all hold_g_product (decide (nthI (pick vs us) 0 * nthI (pick vs us) 1 = nthI (pick vs us) 2)))
  exact G
def ents_reify (c e1 e0 : Bool) : List Ent := [⟨67, [.chan (some 6), .chan (some 2)], .agg ⟨[.chan (some 7), .chan (some 8)]⟩⟩, ⟨65, [.chan (some 5)], .agg ⟨[.chan (some 9), .chan (some 10)]⟩⟩, ⟨66, [.agg ⟨[.chan (some 7), .chan (some 8)]⟩, .agg ⟨[.chan (some 9), .chan (some 10)]⟩], .bool c⟩]
def bins_reify (c e1 e0 : Bool) : List BinE := [⟨.eql, 3, .chan (some 4), .int .i64 1, .bool e1⟩, ⟨.eql, 3, .chan (some 4), .int .i64 0, .bool e0⟩]
set_option maxRecDepth 100000 in
theorem hold_g_reify : (bs.all fun c => bs.all fun e1 => bs.all fun e0 => gives Tryd.prog (binO (bins_reify c e1 e0)) (orO (atO 3) (entO (ents_reify c e1 e0))) hTab [] 50 20 11 42 [.agg ⟨[.string ⟨#[114, 101, 105, 102, 121]⟩, .chan (some 0), .chan (some 1), .chan (some 2)]⟩, .chan (some 3)] (.bool ((c && e0 || !c && e1)))) = true := by kernel_rfl
set_option maxRecDepth 100000 in
theorem hold_reify (x : ByteArray) (vs cs us : List Int) (n : Int) (A B D : Option Addr) (c1 c2 c3 : Nat) (w : World) (hx : x.toList = [114, 101, 105, 102, 121]) (hp : Pl w A D vs us) (hb : Ints w B cs) (hn : -9223372036854775808 ≤ n ∧ n ≤ 9223372036854775807) (hl : vs.length ≤ 100) (hm : 3 ≤ vs.length)  :
    Calls Tryd.prog 42 #[.agg #[.string x, .slice A vs.length c1, .slice B cs.length c2, .int .i64 n], .slice D us.length c3] w fun e w' => e = .returned (.bool ((decide (nthI (pick vs us) 0 = 1) && decide (nthI (pick vs us) 1 - nthI (pick vs us) 2 ≤ n) || decide (nthI (pick vs us) 0 = 0) && !decide (nthI (pick vs us) 1 - nthI (pick vs us) 2 ≤ n)))) ∧ Below w.heap.size w w' := by
  obtain rfl : x = ⟨#[114, 101, 105, 102, 121]⟩ := by
    obtain ⟨⟨d⟩⟩ := x; rw [Lib.toList_data] at hx; obtain rfl : d = _ := hx; rfl
  have h0 := i64_nth (vs := vs) hp.d.2.1 0
  have h1 := i64_nth (vs := vs) hp.d.2.1 1
  have h2 := i64_nth (vs := vs) hp.d.2.1 2
  have he := hAll_one vs cs us n A B D c1 c2 c3 ([Value.int .i64 ((nthI (pick vs us) 2 + n) / 18446744073709551616), Value.int .u64 ((nthI (pick vs us) 2 + n) % 18446744073709551616), Value.int .i64 ((nthI (pick vs us) 1) / 18446744073709551616), Value.int .u64 ((nthI (pick vs us) 1) % 18446744073709551616)] : List Value) (by rfl)
  have s : ∀ r, r < 11 → VR (symφ (iW w (hBase vs cs us n A B D c1 c2 c3 ++ ([Value.int .i64 ((nthI (pick vs us) 2 + n) / 18446744073709551616), Value.int .u64 ((nthI (pick vs us) 2 + n) % 18446744073709551616), Value.int .i64 ((nthI (pick vs us) 1) / 18446744073709551616), Value.int .u64 ((nthI (pick vs us) 1) % 18446744073709551616)] : List Value)) he)) (.chan (some r)) ((hBase vs cs us n A B D c1 c2 c3 ++ ([Value.int .i64 ((nthI (pick vs us) 2 + n) / 18446744073709551616), Value.int .u64 ((nthI (pick vs us) 2 + n) % 18446744073709551616), Value.int .i64 ((nthI (pick vs us) 1) / 18446744073709551616), Value.int .u64 ((nthI (pick vs us) 1) % 18446744073709551616)] : List Value)).getD r (.int .i64 0)) := fun r hr => VR.sym (symφ_sy (iW w (hBase vs cs us n A B D c1 c2 c3 ++ ([Value.int .i64 ((nthI (pick vs us) 2 + n) / 18446744073709551616), Value.int .u64 ((nthI (pick vs us) 2 + n) % 18446744073709551616), Value.int .i64 ((nthI (pick vs us) 1) / 18446744073709551616), Value.int .u64 ((nthI (pick vs us) 1) % 18446744073709551616)] : List Value)) he)) hr
  have hen : ∀ e ∈ ents_reify (decide (nthI (pick vs us) 2 + n < nthI (pick vs us) 1)) (nthI (pick vs us) 0 == 1) (nthI (pick vs us) 0 == 0), e.Ok Tryd.prog (iW w (hBase vs cs us n A B D c1 c2 c3 ++ ([Value.int .i64 ((nthI (pick vs us) 2 + n) / 18446744073709551616), Value.int .u64 ((nthI (pick vs us) 2 + n) % 18446744073709551616), Value.int .i64 ((nthI (pick vs us) 1) / 18446744073709551616), Value.int .u64 ((nthI (pick vs us) 1) % 18446744073709551616)] : List Value)) he) := by
    intro e he2
    simp only [ents_reify, List.mem_cons, List.not_mem_nil, or_false] at he2
    rcases he2 with rfl | rfl | rfl
    · exact ⟨by first | rfl | kernel_rfl, by first | rfl | kernel_rfl, enters Tryd.func67 (by decide +kernel) (by kernel_rfl), fun w' hbw => sumOf_any (nthI (pick vs us) 2) n w' h2 hn⟩
    · exact ⟨by first | rfl | kernel_rfl, by first | rfl | kernel_rfl, enters Tryd.func65 (by decide +kernel) (by kernel_rfl), fun w' hbw => wideOf_any (nthI (pick vs us) 1) w' h1⟩
    · exact ⟨by first | rfl | kernel_rfl, by first | rfl | kernel_rfl, enters Tryd.func66 (by decide +kernel) (by kernel_rfl), fun w' hbw => isLess_any (nthI (pick vs us) 2 + n) (nthI (pick vs us) 1) w' (by unfold wBound; omega) (by unfold wBound; omega)⟩
  have hbi : ∀ e ∈ bins_reify (decide (nthI (pick vs us) 2 + n < nthI (pick vs us) 1)) (nthI (pick vs us) 0 == 1) (nthI (pick vs us) 0 == 0), e.Ok Tryd.prog (iW w (hBase vs cs us n A B D c1 c2 c3 ++ ([Value.int .i64 ((nthI (pick vs us) 2 + n) / 18446744073709551616), Value.int .u64 ((nthI (pick vs us) 2 + n) % 18446744073709551616), Value.int .i64 ((nthI (pick vs us) 1) / 18446744073709551616), Value.int .u64 ((nthI (pick vs us) 1) % 18446744073709551616)] : List Value)) he) := by
    intro e he2
    simp only [bins_reify, List.mem_cons, List.not_mem_nil, or_false] at he2
    rcases he2 with rfl | rfl
    · exact ⟨by first | rfl | kernel_rfl, by first | rfl | kernel_rfl, by first | rfl | kernel_rfl, fun xo yo w' => op_eql⟩
    · exact ⟨by first | rfl | kernel_rfl, by first | rfl | kernel_rfl, by first | rfl | kernel_rfl, fun xo yo w' => op_eql⟩
  have G := run_rel (w0 := iW w (hBase vs cs us n A B D c1 c2 c3 ++ ([Value.int .i64 ((nthI (pick vs us) 2 + n) / 18446744073709551616), Value.int .u64 ((nthI (pick vs us) 2 + n) % 18446744073709551616), Value.int .i64 ((nthI (pick vs us) 1) / 18446744073709551616), Value.int .u64 ((nthI (pick vs us) 1) % 18446744073709551616)] : List Value)) he) mixed hTab_ok xtab_nil (Nat.le_refl _) (binO_ok hbi) (orO_ok (atO_ok hp hm) (entO_ok hen)) (LR.cons (VR.agg_iff.2 (LR.cons (.leaf (by decide +kernel)) (LR.cons (s 0 (by decide)) (LR.cons (s 1 (by decide)) (LR.cons (s 2 (by decide)) LR.nil))))) (LR.cons (s 3 (by decide)) LR.nil)) rfl (bs_all (bs_all (bs_all hold_g_reify (decide (nthI (pick vs us) 2 + n < nthI (pick vs us) 1))) (nthI (pick vs us) 0 == 1)) (nthI (pick vs us) 0 == 0))
  exact (by rw [show (decide (nthI (pick vs us) 0 = 1) && decide (nthI (pick vs us) 1 - nthI (pick vs us) 2 ≤ n) || decide (nthI (pick vs us) 0 = 0) && !decide (nthI (pick vs us) 1 - nthI (pick vs us) 2 ≤ n)) = (decide (nthI (pick vs us) 2 + n < nthI (pick vs us) 1) && (nthI (pick vs us) 0 == 0) || !decide (nthI (pick vs us) 2 + n < nthI (pick vs us) 1) && (nthI (pick vs us) 0 == 1)) from reify_same _ _ _ n]; exact G)
end Go.Proofs.YtpejolnjnkcolaaDoor
