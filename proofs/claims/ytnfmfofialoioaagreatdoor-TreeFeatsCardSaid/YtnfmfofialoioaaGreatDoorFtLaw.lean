/-
  The law of features returns true.
-/
import Derived.Test.YtnfmfofialoioaaGreatDoorFtBody
import Derived.Test.YtnfmfofialoioaaGreatDoorEvU
namespace Go.Proofs.YtnfmfofialoioaaGreatDoor
open Go Go.Ev Go.RowKit T

def neB (an bn : Int) (ax bx : ByteArray) : Bool := !(an == bn && ax.toList == bx.toList)
set_option maxRecDepth 100000 in
theorem run_neFeat (an bn : Int) (ax bx : ByteArray) (xo yo : Operand) (w : World) :
    (do eqGuard .neq 23 xo yo (.agg #[.int .i64 an, .string ax]) (.agg #[.int .i64 bn, .string bx]); binOp .neq 23 (.agg #[.int .i64 an, .string ax]) (.agg #[.int .i64 bn, .string bx]) : Sem Value).run Tryz.prog w = .ok (.bool (neB an bn ax bx)) w := by
  have hm : Tryz.prog.eqGuardType Tryz.prog.depth 23 = false := by kernel_rfl
  have hp : Tryz.prog.stoodInHeld 23 = false := by kernel_rfl
  have ht : Tryz.prog.underlying 23 = some (.struct (Tryz.prog.fieldsOf 23)) := by kernel_rfl
  rw [Sem.run_bind, run_eqGuard_agg _ _ _ _ _ _ _ hm]
  simp only [Result.andThen_ok]
  rw [run_neq_struct, run_equalIn_struct _ 9999 _ _ _ ht hp]
  have e1 : (Op.equalIn 9999 3 (.int .i64 an) (.int .i64 bn)).run Tryz.prog w = .ok (an == bn) w := run_equalIn_int (P := Tryz.prog) w 9998 3 .i64 .i64 an bn Tryz.underlying3
  have e2 : (Op.equalIn 9999 9 (.string ax) (.string bx)).run Tryz.prog w = .ok (ax.toList == bx.toList) w := run_equalIn_string (P := Tryz.prog) w 9998 9 ax bx Tryz.underlying9
  have hf : ∃ f1 f2 : Field, (Tryz.prog.fieldsOf 23).toList = [f1, f2] ∧ f1.name ≠ "_" ∧ f2.name ≠ "_" ∧ f1.type = 3 ∧ f2.type = 9 ∧ f1.offset = 0 ∧ f2.offset = 1 := ⟨(Tryz.prog.fieldsOf 23)[0]!, (Tryz.prog.fieldsOf 23)[1]!, by kernel_rfl, by decide +kernel, by decide +kernel, by kernel_rfl, by kernel_rfl, by kernel_rfl, by kernel_rfl⟩
  obtain ⟨f1, f2, hl, n1, n2, t1, t2, o1, o2⟩ := hf
  have ai : (isAgg 3).run Tryz.prog w = .ok false w := by simp [isAgg, run_underlying Tryz.underlying3]
  have az : (isAgg 9).run Tryz.prog w = .ok false w := by simp [isAgg, run_underlying Tryz.underlying9]
  have pi : ∀ (n : Int) (x : ByteArray), (part 3 #[.int .i64 n, .string x] 0).run Tryz.prog w = .ok (.int .i64 n) w := fun n x => by simp [part, ai]
  have ps : ∀ (n : Int) (x : ByteArray), (part 9 #[.int .i64 n, .string x] 1).run Tryz.prog w = .ok (.string x) w := fun n x => by simp [part, az]
  rw [hl]
  simp only [Op.eqFields, n1, n2, ne_eq, not_false_eq_true, if_true, t1, t2, o1, o2, Sem.run_bind, pi, ps, e1, Result.andThen_ok]
  unfold neB
  cases h : an == bn
  · simp
  · simp only [Bool.not_true, Bool.false_eq_true, if_false, Sem.run_bind, ps, Result.andThen_ok, e2]
    cases h2 : ax.toList == bx.toList <;> simp

theorem fOps_ok (w : World) (an bn cn : Int) (ax bx cx : ByteArray) (ha : ax.size ≤ 140737488355328) (hb : bx.size ≤ 140737488355328) (hc : cx.size ≤ 140737488355328) :
    OpOk Tryz.prog (fW w an bn cn ax bx cx) (fOps (decide ((ax.size : Int) + bx.size + cx.size > 1000)) (neB an bn ax bx)) := by
  refine ⟨fun b t v u r h φ sy v' u' hv hu xo yo w1 => ?_, fun t v r h φ sy v' hv ty w1 => ?_⟩
  · simp only [fOps] at h
    split at h
    · cases h
      rw [one_sym sy hv, one_sym sy hu]
      exact ⟨_, op_add (a := ax.size) (b := bx.size) (by omega) (by omega), VR.sym sy (r := 9) (show 9 < 11 by decide)⟩
    · cases h
      rw [one_sym sy hv, one_sym sy hu]
      exact ⟨_, op_add (a := (ax.size : Int) + bx.size) (b := cx.size) (by omega) (by omega), VR.sym sy (r := 10) (show 10 < 11 by decide)⟩
    · cases h
      have hu' := plain_eq 0 _ _ rfl hu
      rw [one_sym sy hv, hu']
      exact ⟨_, op_gtr (a := (ax.size : Int) + bx.size + cx.size) (b := 1000), .leaf rfl⟩
    · split at h
      · rename_i ht
        obtain rfl := Nat.eq_of_beq_eq_true ht
        split at h
        · rename_i hx hy
          cases h
          rw [sym_feat sy hx hv, sym_feat sy hy hu]
          exact ⟨_, run_neFeat an bn ax bx xo yo w1, .leaf rfl⟩
        · cases h
      · cases h
    · cases h
  · simp only [fOps] at h
    split at h
    · rename_i ht
      obtain rfl := Nat.eq_of_beq_eq_true ht
      split at h
      · cases h
        rw [one_sym sy hv]
        exact ⟨_, op_len_string (s := ax) Tryz.underlying9, VR.sym sy (r := 6) (show 6 < 11 by decide)⟩
      · cases h
        rw [one_sym sy hv]
        exact ⟨_, op_len_string (s := bx) Tryz.underlying9, VR.sym sy (r := 7) (show 7 < 11 by decide)⟩
      · cases h
        rw [one_sym sy hv]
        exact ⟨_, op_len_string (s := cx) Tryz.underlying9, VR.sym sy (r := 8) (show 8 < 11 by decide)⟩
      · cases h
    · cases h

set_option maxRecDepth 100000 in
theorem awake_gives : gives Tryz.prog noOpO noOrc tab xtab 400 200 0 4 [] (.bool true) = true := by kernel_rfl
theorem awake_any (w : World) : Calls Tryz.prog 4 #[] w fun e w' => e = .returned (.bool true) ∧ Below w.heap.size w w' :=
  run_closed mixed tab_ok xtab_ok (args := []) rfl rfl awake_gives w
theorem lr_nil {φ : Pm} {l : List Value} (h : LR φ [] l) : l = [] := List.eq_nil_of_length_eq_zero h.1.symm
theorem lr_one {φ : Pm} {x : Value} {l : List Value} (h : LR φ [x] l) : ∃ x', l = [x'] ∧ VR φ x x' := by
  rcases l with _ | ⟨a, _ | ⟨b, l⟩⟩
  · exact absurd h.1 (by simp)
  · exact ⟨a, rfl, h.cons_inv.1⟩
  · exact absurd h.1 (by simp)
theorem lr_two {φ : Pm} {x y : Value} {l : List Value} (h : LR φ [x, y] l) : ∃ x' y', l = [x', y'] ∧ VR φ x x' ∧ VR φ y y' := by
  rcases l with _ | ⟨a, l⟩
  · exact absurd h.1 (by simp)
  · obtain ⟨h1, h2⟩ := h.cons_inv
    obtain ⟨b, rfl, h3⟩ := lr_one h2
    exact ⟨a, b, rfl, h1, h3⟩
theorem awake_orc : (∀ args w, (callFunc 4 args).run Tryz.prog w = .ok (.enter 4 args) w) := (enter_of Tryz.func4 (by decide +kernel) (by kernel_rfl)).2
theorem aOrc_ok (w0 : W0) : OrcOk Tryz.prog w0 aOrc := by
  intro k args v h
  unfold aOrc at h
  split at h
  · split at h
    · rename_i hk
      obtain rfl := Nat.eq_of_beq_eq_true hk
      cases h
      refine ⟨rfl, fun φ args' _ hl w1 => ?_⟩
      obtain rfl := lr_nil hl
      exact ⟨fun w => awake_orc _ w, awake_any w1⟩
    · cases h
  · cases h
theorem is_both {k : Nat} (h : (Nat.beq k 5 || Nat.beq k 6) = true) (n : Int) (x : ByteArray) (hs : x.size ≤ 1000) (w : World) :
    (∀ args w, (callFunc k args).run Tryz.prog w = .ok (.enter k args) w) ∧ Calls Tryz.prog k #[.agg #[.int .i64 n, .string x]] w fun e w' => e = .returned (.bool (featB n x)) ∧ Below w.heap.size w w' := by
  rw [Bool.or_eq_true] at h
  rcases h with h | h
  · obtain rfl := Nat.eq_of_beq_eq_true h
    exact ⟨(enter_of Tryz.func5 (by decide +kernel) (by kernel_rfl)).2, IsFeat_any n x w hs⟩
  · obtain rfl := Nat.eq_of_beq_eq_true h
    exact ⟨(enter_of Tryz.func6 (by decide +kernel) (by kernel_rfl)).2, IsFeat_r_any n x w hs⟩
theorem fOrc_ok (w : World) (an bn cn : Int) (ax bx cx : ByteArray) (ha : ax.size ≤ 1000) (hb : bx.size ≤ 1000) (hc : cx.size ≤ 1000) :
    OrcOk Tryz.prog (fW w an bn cn ax bx cx) (fOrc (featB an ax) (featB bn bx) (featB cn cx) (lessB an ax bn bx) (lessB bn bx an ax) (lessB bn bx cn cx) (lessB an ax cn cx)) := by
  intro k args v h
  unfold fOrc at h
  split at h
  · split at h
    · rename_i hk
      obtain rfl := Nat.eq_of_beq_eq_true hk
      cases h
      refine ⟨rfl, fun φ args' _ hl w1 => ?_⟩
      obtain rfl := lr_nil hl
      exact ⟨fun w => awake_orc _ w, awake_any w1⟩
    · cases h
  · split at h
    · rename_i hk
      split at h
      · rename_i hx
        cases h
        refine ⟨rfl, fun φ args' sy hl w1 => ?_⟩
        obtain ⟨x', rfl, hx'⟩ := lr_one hl
        rw [sym_feat sy hx hx']
        obtain ⟨q1, q2⟩ := is_both hk an ax ha w1
        exact ⟨fun w => q1 _ w, q2⟩
      · rename_i hx
        cases h
        refine ⟨rfl, fun φ args' sy hl w1 => ?_⟩
        obtain ⟨x', rfl, hx'⟩ := lr_one hl
        rw [sym_feat sy hx hx']
        obtain ⟨q1, q2⟩ := is_both hk bn bx hb w1
        exact ⟨fun w => q1 _ w, q2⟩
      · rename_i hx
        cases h
        refine ⟨rfl, fun φ args' sy hl w1 => ?_⟩
        obtain ⟨x', rfl, hx'⟩ := lr_one hl
        rw [sym_feat sy hx hx']
        obtain ⟨q1, q2⟩ := is_both hk cn cx hc w1
        exact ⟨fun w => q1 _ w, q2⟩
      · cases h
    · cases h
  · split at h
    · rename_i hall
      simp only [Bool.and_eq_true] at hall
      obtain ⟨⟨fa, fb⟩, fc⟩ := hall
      have le := (enter_of Tryz.func7 (by decide +kernel) (by kernel_rfl)).2
      have lr := (enter_of Tryz.func8 (by decide +kernel) (by kernel_rfl)).2
      split at h
      · rename_i hk
        obtain rfl := Nat.eq_of_beq_eq_true hk
        split at h
        · rename_i hx hy
          cases h
          refine ⟨rfl, fun φ args' sy hl w1 => ?_⟩
          obtain ⟨x', y', rfl, hx', hy'⟩ := lr_two hl
          rw [sym_feat sy hx hx', sym_feat sy hy hy']
          exact ⟨fun w => le _ w, Less_feat an bn ax bx w1 fa fb⟩
        · rename_i hx hy
          cases h
          refine ⟨rfl, fun φ args' sy hl w1 => ?_⟩
          obtain ⟨x', y', rfl, hx', hy'⟩ := lr_two hl
          rw [sym_feat sy hx hx', sym_feat sy hy hy']
          exact ⟨fun w => le _ w, Less_feat bn an bx ax w1 fb fa⟩
        · rename_i hx hy
          cases h
          refine ⟨rfl, fun φ args' sy hl w1 => ?_⟩
          obtain ⟨x', y', rfl, hx', hy'⟩ := lr_two hl
          rw [sym_feat sy hx hx', sym_feat sy hy hy']
          exact ⟨fun w => le _ w, Less_feat bn cn bx cx w1 fb fc⟩
        · rename_i hx hy
          cases h
          refine ⟨rfl, fun φ args' sy hl w1 => ?_⟩
          obtain ⟨x', y', rfl, hx', hy'⟩ := lr_two hl
          rw [sym_feat sy hx hx', sym_feat sy hy hy']
          exact ⟨fun w => le _ w, Less_feat an cn ax cx w1 fa fc⟩
        · cases h
      · split at h
        · rename_i hk
          obtain rfl := Nat.eq_of_beq_eq_true hk
          split at h
          · rename_i hx hy
            cases h
            refine ⟨rfl, fun φ args' sy hl w1 => ?_⟩
            obtain ⟨x', y', rfl, hx', hy'⟩ := lr_two hl
            rw [sym_feat sy hx hx', sym_feat sy hy hy']
            exact ⟨fun w => lr _ w, Less_r_any an bn ax bx w1⟩
          · cases h
        · cases h
    · cases h
  · cases h
theorem small_at (fa fb fc ab ba bc ac ne : Bool) (h : fMay fa fb fc ab ba bc ac ne = true) : fGives fa fb fc ab ba bc ac ne = true := by
  have m : ∀ b : Bool, b ∈ bools := by decide
  have h1 := List.all_eq_true.1 all_small fa (m fa)
  have h2 := List.all_eq_true.1 h1 fb (m fb)
  have h3 := List.all_eq_true.1 h2 fc (m fc)
  have h4 := List.all_eq_true.1 h3 ab (m ab)
  have h5 := List.all_eq_true.1 h4 ba (m ba)
  have h6 := List.all_eq_true.1 h5 bc (m bc)
  have h7 := List.all_eq_true.1 h6 ac (m ac)
  have h8 := List.all_eq_true.1 h7 ne (m ne)
  rw [h] at h8
  simpa using h8
theorem may_be (an bn cn : Int) (ax bx cx : ByteArray) :
    fMay (featB an ax) (featB bn bx) (featB cn cx) (lessB an ax bn bx) (lessB bn bx an ax) (lessB bn bx cn cx) (lessB an ax cn cx) (neB an bn ax bx) = true := by
  unfold fMay
  rcases hfa : featB an ax with _ | _
  · rfl
  rcases hfb : featB bn bx with _ | _
  · rfl
  rcases hfc : featB cn cx with _ | _
  · rfl
  have t := less_total hfa hfb
  have e : neB an bn ax bx = true ↔ ¬ (an = bn ∧ ax = bx) := by
    unfold neB
    simp only [Bool.not_eq_true', Bool.and_eq_false_iff]
    constructor
    · rintro h ⟨rfl, rfl⟩
      simp at h
    · intro h
      by_cases h1 : an = bn
      · right
        simp only [beq_eq_false_iff_ne, ne_eq]
        exact fun e => h ⟨h1, bytes_eq e⟩
      · left; simpa using h1
  have e2 : (lessB an ax bn bx || lessB bn bx an ax) = neB an bn ax bx := by
    rw [Bool.eq_iff_iff, t, e]
  rw [← e2]
  rcases h1 : lessB an ax bn bx with _ | _
  · simp
  · have h2 := less_asymm h1
    rcases h3 : lessB bn bx cn cx with _ | _
    · simp [h2]
    · simp [h2, less_trans h1 h3]
theorem f_args (w : World) (an bn cn : Int) (ax bx cx : ByteArray) : LR (symφ (fW w an bn cn ax bx cx)) fArgs [.agg #[.int .i64 an, .string ax], .agg #[.int .i64 bn, .string bx], .agg #[.int .i64 cn, .string cx]] := by
  have sy := symφ_sy (fW w an bn cn ax bx cx)
  have s : ∀ r, r < 11 → VR (symφ (fW w an bn cn ax bx cx)) (.chan (some r)) (fEnv an bn cn ax bx cx r) := fun r hr => VR.sym sy hr
  exact LR.cons (VR.agg_iff.2 (LR.cons (s 0 (by decide)) (LR.cons (s 1 (by decide)) LR.nil))) (LR.cons (VR.agg_iff.2 (LR.cons (s 2 (by decide)) (LR.cons (s 3 (by decide)) LR.nil))) (LR.cons (VR.agg_iff.2 (LR.cons (s 4 (by decide)) (LR.cons (s 5 (by decide)) LR.nil))) LR.nil))
theorem TreeFeats_any (an bn cn : Int) (ax bx cx : ByteArray) (w : World) (ha : ax.size ≤ 140737488355328) (hb : bx.size ≤ 140737488355328) (hc : cx.size ≤ 140737488355328) :
    Calls Tryz.prog 3 #[.agg #[.int .i64 an, .string ax], .agg #[.int .i64 bn, .string bx], .agg #[.int .i64 cn, .string cx]] w fun e w' => e = .returned (.bool true) ∧ Below w.heap.size w w' := by
  have ops := fOps_ok w an bn cn ax bx cx ha hb hc
  by_cases hbig : (ax.size : Int) + bx.size + cx.size > 1000
  · rw [decide_eq_true hbig] at ops
    have hg : gives Tryz.prog (fOps true (neB an bn ax bx)) aOrc tab xtab 50 20 11 3 fArgs (.bool true) = true := List.all_eq_true.1 all_big _ (by cases neB an bn ax bx <;> decide)
    exact run_rel (w0 := fW w an bn cn ax bx cx) mixed tab_ok xtab_ok (Nat.le_refl _) ops (aOrc_ok _) (f_args w an bn cn ax bx cx) rfl hg
  · rw [decide_eq_false hbig] at ops
    exact run_rel (w0 := fW w an bn cn ax bx cx) mixed tab_ok xtab_ok (Nat.le_refl _) ops (fOrc_ok w an bn cn ax bx cx (by omega) (by omega) (by omega)) (f_args w an bn cn ax bx cx) rfl (small_at _ _ _ _ _ _ _ _ (may_be an bn cn ax bx cx))
end Go.Proofs.YtnfmfofialoioaaGreatDoor
