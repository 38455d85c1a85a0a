/-
  Frames, calls, and regions whose order is fixed.
-/
/-
  Which operations don't look at the blocks, which only read them; and when two values are the same.
-/
/-
  Regions whose order is drawn: what is told of them in one order holds for all of them.
-/
import Derived.Test.YtjhlodbhchdkbaaGreatDoorEvM4
import Derived.Tactics
namespace Go.Ev
open Go Go.RowKit

/-- defers: what is put off to the end of the call, the last one first: a function, and all that it is called with. -/
structure Fr where
  tmps : Tr Value
  size : Nat
  defers : List (Nat × List Value)
def Fr.E (f : Fr) : Operand → Option Value
  | .tmp t => f.tmps.get t
  | .const v => if plainB 3 v then some v else none
  | .global _ => none
  | .func k => some (.func (.func k) #[] #[])
def Fr.put (f : Fr) (dst : Option Tmp) (v : Value) : Fr := match dst with
  | some d => if Nat.blt d f.size then { f with tmps := f.tmps.put d (some v) } else f
  | none => f
inductive DsR (φ : Pm) : List (Nat × List Value) → List Deferred → Prop
  | nil : DsR φ [] []
  | cons {k : Nat} {args dargs cap : List Value} {ds : List (Nat × List Value)} {ds' : List Deferred} (h : LR φ args (dargs ++ cap)) (t : DsR φ ds ds') : DsR φ ((k, args) :: ds) ({ target := .fn (.func k) ⟨cap⟩, args := ⟨dargs⟩ } :: ds')
theorem DsR.mono {φ φ' : Pm} (hle : Le φ φ') {ds : List (Nat × List Value)} {ds' : List Deferred} (h : DsR φ ds ds') : DsR φ' ds ds' := by
  induction h with
  | nil => exact .nil
  | cons h _ ih => exact .cons (h.mono hle) ih
theorem DsR.nil_inv {φ : Pm} {ds : List Deferred} (h : DsR φ [] ds) : ds = [] := by cases h; rfl
structure FrR (φ : Pm) (f : Fr) (a : Act) : Prop where
  size : a.tmps.size = f.size
  tmps : ∀ t v, f.tmps.get t = some v → VR φ v (a.eval (.tmp t))
  defers : DsR φ f.defers a.defers
theorem Fr.put_defers (f : Fr) (d : Option Tmp) (v : Value) : (f.put d v).defers = f.defers := by
  unfold Fr.put; split
  · split <;> rfl
  · rfl
theorem Fr.put_size (f : Fr) (d : Option Tmp) (v : Value) : (f.put d v).size = f.size := by
  unfold Fr.put; split
  · split <;> rfl
  · rfl
theorem eval_put (a : Act) (d : Option Tmp) (v : Value) (t : Tmp) : (a.put d v).eval (.tmp t) = if d = some t ∧ t < a.tmps.size then v else a.eval (.tmp t) := by
  cases d with
  | none => simp [Act.put]
  | some d =>
    simp only [Act.put, Act.eval, Array.getD_eq_getD_getElem?, Array.getElem?_setIfInBounds]
    by_cases e : d = t
    · subst e
      by_cases h : d < a.tmps.size
      · simp [h]
      · simp [h]
    · simp [e]
theorem Fr.get_put (f : Fr) (d : Option Tmp) (v : Value) (t : Tmp) : (f.put d v).tmps.get t = if d = some t ∧ t < f.size then some v else f.tmps.get t := by
  cases d with
  | none => simp [Fr.put]
  | some d =>
    simp only [Fr.put]
    by_cases h : d < f.size
    · have : Nat.blt d f.size = true := Nat.ble_eq_true_of_le h
      simp only [this, if_true, Tr.get_put_eq]
      by_cases e : t = d
      · subst e; simp [h]
      · have : ¬ d = t := fun e' => e e'.symm
        simp [e, this]
    · have : Nat.blt d f.size = false := by
        cases hb : Nat.blt d f.size with
        | false => rfl
        | true => exact absurd (Nat.le_of_ble_eq_true hb) h
      simp only [this]
      by_cases e : d = t
      · subst e; simp [h]
      · simp [e]
theorem FrR.mono {φ φ' : Pm} {f : Fr} {a : Act} (h : FrR φ f a) (k : Le φ φ') : FrR φ' f a := ⟨h.size, fun t v e => (h.tmps t v e).mono k, h.defers.mono k⟩
theorem FrR.put {φ : Pm} {f : Fr} {a : Act} (h : FrR φ f a) {v v' : Value} (k : VR φ v v') (d : Option Tmp) : FrR φ (f.put d v) (a.put d v') := by
  refine ⟨?_, fun t u e => ?_, ?_⟩
  · rw [Fr.put_size]; cases d with
    | none => exact h.size
    | some d => simpa [Act.put] using h.size
  · rw [eval_put]
    rw [Fr.get_put] at e
    rw [h.size]
    split at e
    · rename_i hc; rw [if_pos hc]; cases e; exact k
    · rename_i hc; rw [if_neg hc]; exact h.tmps t u e
  · rw [Fr.put_defers]; cases d <;> exact h.defers
theorem FrR.E {φ : Pm} {f : Fr} {a : Act} (h : FrR φ f a) {x : Operand} {v : Value} (e : f.E x = some v) : VR φ v (a.eval x) := by
  cases x with
  | tmp t => exact h.tmps t v e
  | const u =>
    simp only [Fr.E] at e
    split at e
    · rename_i hp; cases e; exact plain_refl 3 _ hp
    · cases e
  | global g => cases e
  | func k => cases e; exact .func rfl (fun i v v' a => by simp at a) rfl (fun i v v' a => by simp at a)
theorem FrR.ER {φ : Pm} {f : Fr} {a : Act} (h : FrR φ f a) (o : Oper) : ER' φ f.E a.eval o := fun _ _ _ e => h.E e

/-! ### guards -/
def nth {α : Type} : List α → Nat → Option α
  | [], _ => none
  | x :: _, 0 => some x
  | _ :: xs, i + 1 => nth xs i
theorem nth_eq {α : Type} : ∀ (l : List α) (i : Nat), nth l i = l[i]?
  | [], _ => by simp [nth]
  | _ :: _, 0 => by simp [nth]
  | _ :: xs, i + 1 => by simp [nth, nth_eq xs i]
def awanted (ops : List Oper) (f : Fr) (o : Oper) : Option Bool := match o.guard with
  | none => some true
  | some (j, want) => match nth ops j with
    | some oj => match oj.dst with
      | some t => match f.tmps.get t with
        | some (.bool b) => some (b == want)
        | some (.tuple _) => some false
        | _ => none
      | none => none
    | none => none
theorem awanted_ok {φ : Pm} {f : Fr} {a : Act} (h : FrR φ f a) {ops : Array Oper} {o : Oper} {b : Bool} (e : awanted ops.toList f o = some b) : Region.wanted o (yielded ops a.tmps) = b := by
  unfold awanted at e
  unfold Region.wanted
  split at e
  · rename_i hg; cases e; simp [hg]
  · rename_i j want hg
    simp only [hg]
    split at e
    · rename_i oj ho
      rw [nth_eq] at ho
      have ho : ops[j]? = some oj := by simpa using ho
      split at e
      · rename_i t ht
        have key : ∀ v, f.tmps.get t = some v → (leafB v = true ∧ v ≠ undef ∨ ∃ xs, v = .tuple xs) → (∃ v', a.tmps[t]? = some v' ∧ VR φ v v') ∨ a.tmps[t]? = none := fun v hv _ => by
          have := h.tmps t v hv
          simp only [Act.eval, Array.getD_eq_getD_getElem?] at this
          cases hx : a.tmps[t]? with
          | none => exact .inr rfl
          | some v' => rw [hx] at this; exact .inl ⟨v', rfl, this⟩
        split at e
        · rename_i c hc
          cases e
          have hv := h.tmps t _ hc
          have : a.tmps[t]? = some (.bool c) := by
            simp only [Act.eval, Array.getD_eq_getD_getElem?] at hv
            cases hx : a.tmps[t]? with
            | none => rw [hx] at hv; simp only [Option.getD_none, undef] at hv; cases hv
            | some v' => rw [hx] at hv; simp only [Option.getD_some] at hv; cases hv; rfl
          simp [yielded, ho, ht, this]
        · rename_i xs hc
          cases e
          have hv := h.tmps t _ hc
          simp only [Act.eval, Array.getD_eq_getD_getElem?] at hv
          cases hx : a.tmps[t]? with
          | none => simp [yielded, ho, ht, hx]
          | some v' =>
            rw [hx] at hv
            simp only [Option.getD_some] at hv
            cases hv with
            | leaf hl => simp [leafB] at hl
            | tuple => simp [yielded, ho, ht, hx]
        · cases e
      · cases e
    · cases e

/-! ### calls -/
abbrev CallF := FuncId → List Value → St → Option (Value × St)
abbrev Tab := List (Nat × Func)
def Tab.find : Tab → Nat → Option Func
  | [], _ => none
  | (k, fn) :: l, n => if Nat.beq k n then some fn else Tab.find l n
def Tab.ok (P : Program) (tab : Tab) : Prop := ∀ k fn, tab.find k = some fn → P.funcs[k]? = some fn ∧ ∀ args w, (callFunc k args).run P w = .ok (.enter k args) w
def CallOk (P : Program) (oo : OpO) (w0 : W0) (call : CallF) : Prop := OpOk P w0 oo ∧ ∀ k args st v st', call k args st = some (v, st') → ∀ φ w args', HR w0 φ st w → LR φ args args' →
  ((∀ w, (callFunc k ⟨args'⟩).run P w = .ok (.enter k ⟨args'⟩) w) ∧ Calls P k ⟨args'⟩ w fun e w' => ∃ v' φ', e = .returned v' ∧ HR w0 φ' st' w' ∧ Kept st φ st' φ' ∧ VR φ' v v') ∨
  (∃ φ' v' w', (callFunc k ⟨args'⟩).run P w = .ok (.value v') w' ∧ HR w0 φ' st' w' ∧ Kept st φ st' φ' ∧ VR φ' v v')

def acall (call : CallF) (E : Operand → Option Value) (c : Call) (st : St) : Option (Value × St) := match c.callee with
  | .value f => match E f with
    | some (.func (.func k) xs ys) => match evL E c.args.toList with
      | some vs => call k (xs.toList ++ vs ++ ys.toList) st
      | none => none
    | _ => none
  | _ => none
theorem acall_ok {P : Program} {oo : OpO} {call : CallF} {w0 : W0} (hc : CallOk P oo w0 call) {w : World} {φ : Pm} {st : St} (H : HR w0 φ st w) {E : Operand → Option Value} {o : Oper} {c : Call} (ho : o.op = .call c) {a : Act} (hE : ER' φ E a.eval o)
    {v : Value} {st' : St} (h : acall call E c st = some (v, st')) {next : Act → World → Prop} {Q : Exit → Act → World → Prop}
    (hn : ∀ φ' v' w', HR w0 φ' st' w' → Kept st φ st' φ' → VR φ' v v' → next (a.put o.dst v') w') : o.wp P a w next Q := by
  unfold acall at h
  have hops : o.op.operands = c.operands := by rw [ho]; rfl
  split at h
  · rename_i f hf
    split at h
    · rename_i k xs ys hk
      split at h
      · rename_i vs hvs
        have h1 : VR φ (.func (.func k) xs ys) (a.eval f) := hE f (by rw [hops]; simp [Call.operands, hf]) _ hk
        have h2 := evL_ok (φ := φ) (ρ := a.eval) (fun x hx => hE x (by rw [hops]; simp only [Call.operands, Array.mem_append]; exact .inr (by simpa using hx))) hvs
        generalize hx : a.eval f = x at h1
        cases h1 with
        | leaf hl => simp [leafB] at hl
        | @func _ _ xs' _ ys' s1 e1 s2 e2 =>
          have hl : LR φ (xs.toList ++ vs ++ ys.toList) (xs'.toList ++ c.args.toList.map a.eval ++ ys'.toList) :=
            (LR.append ⟨by simpa using s1, fun i v v' p q => e1 i v v' (by simpa using p) (by simpa using q)⟩ h2).append ⟨by simpa using s2, fun i v v' p q => e2 i v v' (by simpa using p) (by simpa using q)⟩
          have hcall := fun w (H : HR w0 φ st w) => hc.2 _ _ _ _ _ h φ w _ H hl
          have hrun : (execOp a.eval o).run P w = (callFunc k ⟨xs'.toList ++ c.args.toList.map a.eval ++ ys'.toList⟩).run P w := by
            have e : (xs' ++ Array.map a.eval c.args ++ ys') = ⟨xs'.toList ++ c.args.toList.map a.eval ++ ys'.toList⟩ := by apply Array.ext'; simp
            simp only [execOp, ho, resolve, hf, hx, Deferred.ofValue, invoke, Sem.run_bind, Sem.run_pure, Result.andThen_ok]
            rw [e]
          unfold Oper.wp
          rw [hrun]
          rcases hcall w H with ⟨q1, q2⟩ | ⟨φ', v', w', q1, q2, q3, q4⟩
          · rw [q1 w]
            refine Calls.mono q2 ?_
            rintro e w' ⟨v', φ', rfl, k1, k2, k3⟩
            exact hn φ' v' w' k1 k2 k3
          · rw [q1]
            exact hn φ' v' w' q2 q3 q4
      · cases h
    · cases h
  · cases h

/-! ### what an operation gives, in a frame -/
def isFn : Op → Option Call | .call c => (match c.callee with | .builtin _ => none | _ => some c) | _ => none
def evGot (P : Program) (oo : OpO) (call : CallF) (E : Operand → Option Value) (st : St) (o : Oper) : Option Out := match isFn o.op with
  | some c => match acall call E c st with
    | some (v, st') => some (.eff v st')
    | none => none
  | none => exec1 P oo E st o
def Out.thn (w0 : W0) (φ : Pm) (st : St) (w : World) (K : Value → World → Prop) : Out → Prop
  | .val v => ∀ v' w', Same w w' → VR φ v v' → K v' w'
  | .new ob mk => ∀ ob' v' w' S g z, w'.heap = w.heap.push ob' → w'.os = w.os → w'.tape = w.tape → w'.output = w.output →
      (∀ φ' b, Le φ φ' → φ' b = .live w.heap.size 0 S g z → OR φ' ob (some ob') 0 S g z ∧ VR φ' (mk b) v') → K v' w'
  | .eff v st' => ∀ φ' v' w', HR w0 φ' st' w' → Kept st φ st' φ' → VR φ' v v' → K v' w'
theorem isFn_some {p : Op} {c : Call} (h : isFn p = some c) : p = .call c := by
  unfold isFn at h
  split at h
  · split at h
    · cases h
    · cases h; rfl
  · cases h
theorem evGot_wp {P : Program} {oo : OpO} {call : CallF} {w0 : W0} (hc : CallOk P oo w0 call) {w : World} {φ : Pm} {st : St} (H : HR w0 φ st w) {E : Operand → Option Value} {o : Oper} {a : Act} (hE : ER' φ E a.eval o)
    {u : Out} (h : evGot P oo call E st o = some u) {next : Act → World → Prop} {Q : Exit → Act → World → Prop} (hn : u.thn w0 φ st w fun v' w' => next (a.put o.dst v') w') : o.wp P a w next Q := by
  unfold evGot at h
  split at h
  · rename_i c hfn
    split at h
    · rename_i v st' hcall
      cases h
      exact acall_ok hc H (isFn_some hfn) hE hcall hn
    · cases h
  · have hok := exec1_ok (P := P) hc.1 H hE h
    unfold Oper.wp
    cases u with
    | val v =>
      obtain ⟨v', w', h1, h2, h3⟩ := hok
      rw [h1]; exact hn v' w' h2 h3
    | new ob mk =>
      obtain ⟨ob', v', w', S, g, z, h1, h2, h3, h4, h5, h6⟩ := hok
      rw [h1]; exact hn ob' v' w' S g z h2 h3 h4 h5 h6
    | eff v st' =>
      obtain ⟨φ', w', h1, h2, h3⟩ := hok
      rcases h3 with ⟨v', h3, h4⟩ | ⟨h3, h4⟩
      · rw [h3]; exact hn φ' v' w' h1 h2 h4
      · rw [h3]; subst h4; exact hn φ' undef w' h1 h2 (VR.undef _)

/-! ### regions in their order -/
def Out.to (st : St) : Out → Value × St
  | .val v => (v, st)
  | .new ob mk => (mk st.next, ⟨st.heap.put st.next (some ob), st.next + 1⟩)
  | .eff v st' => (v, st')
def evDefer (f : Fr) (o : Oper) : Option Fr := match o.op with
  | .defer c => match c.callee with
    | .value x => match f.E x with
      | some (.func (.func k) xs ys) => match evL f.E c.args.toList with
        | some vs => some { f with defers := (k, xs.toList ++ vs ++ ys.toList) :: f.defers }
        | none => none
      | _ => none
    | _ => none
  | _ => none
theorem evDefer_wp {P : Program} {φ : Pm} {f f1 : Fr} {a : Act} (F : FrR φ f a) {o : Oper} (h : evDefer f o = some f1) {w : World} {next : Act → World → Prop} {Q : Exit → Act → World → Prop}
    (hn : ∀ a1, FrR φ f1 a1 → next (a1.put o.dst undef) w) : o.wp P a w next Q := by
  unfold evDefer at h
  split at h
  · rename_i c ho
    have hops : o.op.operands = c.operands := by rw [ho]; rfl
    have hE := F.ER o
    split at h
    · rename_i x hx
      split at h
      · rename_i k xs ys hk
        split at h
        · rename_i vs hvs
          cases h
          have h1 : VR φ (.func (.func k) xs ys) (a.eval x) := hE x (by rw [hops]; simp [Call.operands, hx]) _ hk
          have h2 := evL_ok (φ := φ) (ρ := a.eval) (fun x hx => hE x (by rw [hops]; simp only [Call.operands, Array.mem_append]; exact .inr (by simpa using hx))) hvs
          generalize hv : a.eval x = v at h1
          cases h1 with
          | leaf hl => simp [leafB] at hl
          | @func _ _ xs' _ ys' s1 e1 s2 e2 =>
            have hl : LR φ (xs.toList ++ vs ++ ys.toList) ((xs'.toList ++ c.args.toList.map a.eval) ++ ys'.toList) :=
              (LR.append ⟨by simpa using s1, fun i v v' p q => e1 i v v' (by simpa using p) (by simpa using q)⟩ h2).append ⟨by simpa using s2, fun i v v' p q => e2 i v v' (by simpa using p) (by simpa using q)⟩
            have hrun : (execOp a.eval o).run P w = .ok (.defer { target := .fn (.func k) ⟨ys'.toList⟩, args := ⟨xs'.toList ++ c.args.toList.map a.eval⟩ }) w := by
              have e : xs' ++ Array.map a.eval c.args = ⟨xs'.toList ++ c.args.toList.map a.eval⟩ := by apply Array.ext'; simp
              simp only [execOp, ho, resolve, hx, hv, Deferred.ofValue, Sem.run_bind, Sem.run_pure, Result.andThen_ok]
              rw [e]
            unfold Oper.wp
            rw [hrun]
            exact hn _ ⟨F.size, F.tmps, .cons hl F.defers⟩
        · cases h
      · cases h
    · cases h
  · cases h
/-- An empty slice at the end of a block that was grown: nobody knows where it lies, and nobody may ask. -/
def evEmpty (P : Program) (f : Fr) (st : St) (o : Oper) : Option (Value × St) := match o.op with
  | .slice t x lo hi none => match f.E x, optE f.E lo, optE f.E hi with
    | some (.slice (some a) len _), some l, some h => match P.underlying t, bnd l 0, bnd h len, st.heap.get a.block with
      | some (.slice e), some l, some h, some (.cells _ _ true _) => match sizeB P e with
        | some _ => if Nat.beq l h && (Nat.ble h len && !Nat.beq l 0) then some (.slice (some ⟨st.next, 0, none⟩) 0 0, ⟨st.heap, st.next + 1⟩) else none
        | none => none
      | _, _, _, _ => none
    | _, _, _ => none
  | _ => none
theorem HR.dead {w0 : W0} {w : World} {φ : Pm} {st : St} (H : HR w0 φ st w) : HR w0 (φ.tell st.next .dead) ⟨st.heap, st.next + 1⟩ w ∧ Kept st φ ⟨st.heap, st.next + 1⟩ (φ.tell st.next .dead) := by
  have hn := H.fresh st.next (Nat.le_refl _)
  have live : ∀ b B o S g s, (φ.tell st.next .dead) b = .live B o S g s → φ b = .live B o S g s := fun b B o S g s hb => by
    by_cases e : b = st.next
    · subst e; rw [Pm.tell_same] at hb; cases hb
    · rw [Pm.tell_other _ _ _ _ e] at hb; exact hb
  refine ⟨⟨H.below, fun b hb => ?_, fun b hb => H.absent b (by simp at hb; omega), fun b ob hg hb => ?_, fun b1 b2 B o1 S1 g1 s1 o2 S2 g2 s2 k0 k1 k2 => H.inj _ _ _ _ _ _ _ _ _ _ _ k0 (live _ _ _ _ _ _ k1) (live _ _ _ _ _ _ k2), fun b B o S g s k => H.used _ _ _ _ _ _ (live _ _ _ _ _ _ k), ?_⟩, Nat.le_succ _, Le.tell hn, fun c hc hcn => ⟨?_, rfl⟩⟩
  · simp only at hb
    rw [Pm.tell_other _ _ _ _ (by omega)]
    exact H.fresh b (by omega)
  · have e : b ≠ st.next := fun e => by
      subst e
      simp only at hg
      rw [H.absent _ (Nat.le_refl _)] at hg; cases hg
    rw [Pm.tell_other _ _ _ _ e] at hb
    obtain ⟨B, o, S, g, s, k1, k2, k3⟩ := H.obj b ob hg hb
    exact ⟨B, o, S, g, s, by rw [Pm.tell_other _ _ _ _ e]; exact k1, k2, k3.mono (Le.tell hn)⟩
  · refine ⟨fun r hr => ?_, fun r v hv => ?_⟩
    · have hv := H.sym.1 r hr
      rw [Pm.tell_other _ _ _ _ (fun e => by subst e; rw [hn] at hv; cases hv)]; exact hv
    · by_cases e : r = st.next
      · subst e; rw [Pm.tell_same] at hv; cases hv
      · rw [Pm.tell_other _ _ _ _ e] at hv; exact H.sym.2 r v hv
  · rw [Pm.tell_other _ _ _ _ (by omega)]; exact hcn
theorem optE_rel {φ : Pm} {E : Operand → Option Value} {ρ : Operand → Value} {x : Option Operand} {l : Option Value} (hE : ∀ y, x = some y → ∀ v, E y = some v → VR φ v (ρ y)) (h : optE E x = some l) :
    match (generalizing := false) l, x.map ρ with | none, none => True | some a, some b => VR φ a b | _, _ => False := by
  cases x with
  | none => cases h; trivial
  | some y =>
    simp only [optE] at h
    split at h
    · rename_i y' hy; cases h; exact hE y rfl _ hy
    · cases h
theorem evEmpty_wp {P : Program} {w0 : W0} {w : World} {φ : Pm} {st : St} (H : HR w0 φ st w) {f : Fr} {a : Act} {o : Oper} (hE : ER' φ f.E a.eval o) {v : Value} {st' : St} (h : evEmpty P f st o = some (v, st')) {next : Act → World → Prop} {Q : Exit → Act → World → Prop}
    (hn : ∀ φ' v' w', HR w0 φ' st' w' → Kept st φ st' φ' → VR φ' v v' → next (a.put o.dst v') w') : o.wp P a w next Q := by
  unfold evEmpty at h
  obtain ⟨dst, op, type, pos, after, guard⟩ := o
  unfold ER' at hE
  cases op <;> simp only [Op.operands] at hE <;> simp only at h <;> try (cases h; done)
  case slice t x lo hi mx =>
    cases mx with
    | some m => cases h
    | none =>
      simp only at h
      split at h
      · rename_i a0 len cap l0 h0 hx hl0 hh0
        split at h
        · rename_i e l hh cs el s hu hl hh1 hg
          split at h
          · rename_i n hn'
            split at h
            · rename_i hb
              simp only [Bool.and_eq_true, Bool.not_eq_true'] at hb
              obtain ⟨b1, b2, b3⟩ := hb
              have b1 := Nat.eq_of_beq_eq_true b1
              have b2 := Nat.le_of_ble_eq_true b2
              subst b1
              cases h
              have hv := hE x (by simp) _ hx
              have q1 := optE_rel (φ := φ) (ρ := a.eval) (fun y hy => hE y (by subst hy; simp)) hl0
              have q2 := optE_rel (φ := φ) (ρ := a.eval) (fun y hy => hE y (by subst hy; simp)) hh0
              generalize hρ : a.eval x = x' at hv
              cases hv with
              | leaf hl => simp [leafB] at hl
              | @slice _ a' _ _ cap' ha hc =>
                obtain ⟨B, o, S, g', s', k1, k2, k3, k4, arr, k5, k6, k7, k8, k9⟩ := H.obj _ _ hg ha.ne
                subst k3
                unfold CR at hc
                simp only [k1] at hc
                obtain ⟨c1, c2⟩ := hc
                have hr := run_bounds (P := P) (w := w) (b := true) (bnd_rel q1 hl) (bnd_rel q2 hh1) (Nat.le_refl _) (Nat.le_trans b2 c1)
                have hop : ∃ z, (execOp a.eval ⟨dst, .slice t x lo hi none, type, pos, after, guard⟩).run P w = .ok (.value (.slice (some z) 0 (cap' - l))) w := by
                  by_cases e : cap' = l
                  · refine ⟨a', ?_⟩
                    subst e
                    simp [execOp, hρ, Instr.sliceAt, run_underlying hu, Instr.slice, hr, run_size hn']
                  · refine ⟨a'.add (l * n), ?_⟩
                    simp [execOp, hρ, Instr.sliceAt, run_underlying hu, Instr.slice, hr, run_size hn', e]
                obtain ⟨z, hop⟩ := hop
                unfold Oper.wp
                rw [hop]
                obtain ⟨d1, d2⟩ := H.dead
                refine hn _ _ _ d1 d2 (.slice ?_ ?_)
                · unfold AR; simp [Pm.tell_same]
                · unfold CR; simp [Pm.tell_same]
            · cases h
          · cases h
        · cases h
      · cases h
def evTail (P : Program) (f : Fr) (st : St) (o : Oper) : Option (Value × St) := match evEmpty P f st o with
  | some r => some r
  | none => amap P f.E st o
theorem evTail_wp {P : Program} {w0 : W0} {w : World} {φ : Pm} {st : St} (H : HR w0 φ st w) {f : Fr} {a : Act} {o : Oper} (hE : ER' φ f.E a.eval o) {v : Value} {st' : St} (h : evTail P f st o = some (v, st')) {next : Act → World → Prop} {Q : Exit → Act → World → Prop}
    (hn : ∀ φ' v' w', HR w0 φ' st' w' → Kept st φ st' φ' → VR φ' v v' → next (a.put o.dst v') w') : o.wp P a w next Q := by
  unfold evTail at h
  split at h
  · rename_i r hr
    cases h
    exact evEmpty_wp H hE hr hn
  · obtain ⟨φ', v', w', h1, h2, h3, h4⟩ := amap_ok H hE h
    unfold Oper.wp
    rw [h1]
    exact hn φ' v' w' h2 h3 h4
def evOps (P : Program) (oo : OpO) (call : CallF) (ops : List Oper) : List Oper → Fr → St → Option (Fr × St)
  | [], f, st => some (f, st)
  | o :: rest, f, st => match awanted ops f o with
    | some false => evOps P oo call ops rest (f.put o.dst undef) st
    | some true => match evDefer f o with
     | some f1 => evOps P oo call ops rest (f1.put o.dst undef) st
     | none => match evTail P f st o with
      | some (v, st') => evOps P oo call ops rest (f.put o.dst v) st'
      | none => match evGot P oo call f.E st o with
       | some u => match u.to st with
         | (v, st') => evOps P oo call ops rest (f.put o.dst v) st'
       | none => none
    | none => none
theorem thn_to {w0 : W0} {w : World} {φ : Pm} {st : St} (H : HR w0 φ st w) {K : Value → World → Prop} {u : Out} (h : ∀ φ' v' w', HR w0 φ' (u.to st).2 w' → Kept st φ (u.to st).2 φ' → VR φ' (u.to st).1 v' → K v' w') : u.thn w0 φ st w K := by
  cases u with
  | val v => exact fun v' w' h1 h2 => h φ v' w' (H.same h1) (Kept.refl _ _) h2
  | new ob mk =>
    intro ob' v' w' S g z h1 h2 h3 h4 h5
    have hb := H.fresh st.next (Nat.le_refl _)
    obtain ⟨k1, k2⟩ := h5 (φ.tell st.next (.live w.heap.size 0 S g z)) st.next (Le.tell hb) (Pm.tell_same _ _ _)
    refine h _ v' w' (H.new hb (Nat.le_succ _) (Nat.lt_succ_self _) h1 h2 h3 h4 k1) ⟨Nat.le_succ _, Le.tell hb, fun c hc hn => ?_⟩ k2
    have : c ≠ st.next := by omega
    refine ⟨by rw [Pm.tell_other _ _ _ _ this]; exact hn, ?_⟩
    show (st.heap.put st.next (some ob)).get c = _
    rw [Tr.get_put_eq, if_neg this]
  | eff v st' => exact h
/-- An operation that stands alone. -/
def evSole (P : Program) (oo : OpO) (call : CallF) (f : Fr) (st : St) (o : Oper) : Option (Value × St) := match evTail P f st o with
  | some r => some r
  | none => match evGot P oo call f.E st o with
    | some u => some (u.to st)
    | none => none
theorem evSole_wp {P : Program} {oo : OpO} {call : CallF} {w0 : W0} (hc : CallOk P oo w0 call) {w : World} {φ : Pm} {st : St} (H : HR w0 φ st w) {f : Fr} {a : Act} {o : Oper} (hE : ER' φ f.E a.eval o) {v : Value} {st' : St} (h : evSole P oo call f st o = some (v, st')) {next : Act → World → Prop} {Q : Exit → Act → World → Prop}
    (hn : ∀ φ' v' w', HR w0 φ' st' w' → Kept st φ st' φ' → VR φ' v v' → next (a.put o.dst v') w') : o.wp P a w next Q := by
  unfold evSole at h
  split at h
  · rename_i r hr
    cases h
    exact evTail_wp H hE hr hn
  · split at h
    · rename_i u hu
      have e : u.to st = (v, st') := Option.some.inj h
      exact evGot_wp hc H hE hu (thn_to H (by rw [e]; exact hn))
    · cases h
theorem evOps_wp {P : Program} {oo : OpO} {call : CallF} {w0 : W0} (hc : CallOk P oo w0 call) {ops : Array Oper} {Q : Exit → Act → World → Prop} : ∀ (l : List Oper) (f : Fr) (st : St) (f' : Fr) (st' : St) (φ : Pm) (a : Act) (w : World), evOps P oo call ops.toList l f st = some (f', st') →
    HR w0 φ st w → FrR φ f a → (∀ φ' a' w', HR w0 φ' st' w' → Kept st φ st' φ' → FrR φ' f' a' → Q .normal a' w') → wpList P ops Q l a w
  | [], f, st, f', st', φ, a, w, h, H, F, hQ => by
    cases h
    exact hQ φ a w H (Kept.refl _ _) F
  | o :: rest, f, st, f', st', φ, a, w, h, H, F, hQ => by
    unfold wpList
    simp only [evOps] at h
    split at h
    · rename_i hw
      rw [awanted_ok F hw]
      exact evOps_wp hc rest _ _ _ _ φ _ w h H (F.put (VR.undef φ) _) hQ
    · rename_i hw
      rw [awanted_ok F hw]
      simp only [if_true]
      split at h
      · rename_i f1 hd
        exact .inl (evDefer_wp F hd fun a1 F1 => evOps_wp hc rest _ _ _ _ φ _ w h H (F1.put (VR.undef φ) _) hQ)
      split at h
      · rename_i v1 st1 hu
        refine .inl (evTail_wp H (F.ER o) hu fun φ' v' w' h1 h2 h3 => ?_)
        exact evOps_wp hc rest _ _ _ _ φ' _ w' h h1 ((F.mono h2.le).put h3 _) fun φ'' a' w'' k1 k2 k3 => hQ φ'' a' w'' k1 (h2.trans k2) k3
      split at h
      · rename_i u hu
        refine .inl (evGot_wp hc H (F.ER o) hu (thn_to H fun φ' v' w' h1 h2 h3 => ?_))
        exact evOps_wp hc rest _ _ _ _ φ' _ w' h h1 ((F.mono h2.le).put h3 _) fun φ'' a' w'' k1 k2 k3 => hQ φ'' a' w'' k1 (h2.trans k2) k3
      · cases h
    · cases h
end Go.Ev

namespace Go.Ev
open Go Go.RowKit

/-- any: gives the same in every state · read: looks at the blocks alone · eff: others. -/
inductive Cls where
  | any
  | read
  | eff
def cls : Op → Cls
  | .move _ | .assign _ | .pick .. | .alloc _ | .box .. | .build .. | .buildSlice .. | .nilCheck _ | .makeInterface .. | .makeFunc .. | .makeMap .. | .makeSlice ..
  | .fieldAddr .. | .field .. | .indexAddr .. | .index .. | .range .. | .typeAssert .. | .extract .. | .unOp .. => .any
  | .convert .. | .load .. | .binOp .. | .slice .. | .lookup .. => .read
  | .call c => match c.callee with
    | .builtin .len => .read
    | .builtin .max | .builtin .min => .any
    | _ => .eff
  | _ => .eff

theorem exec0_any {P : Program} {E : Operand → Option Value} {st st' : St} {o : Oper} (h : cls o.op = .any) : exec0 P E st o = exec0 P E st' o := by
  obtain ⟨dst, op, type, pos, after, guard⟩ := o
  cases op
  case call c =>
    obtain ⟨callee, args, argTypes⟩ := c
    cases callee with
    | builtin b =>
      cases b <;> first | (exfalso; simp [cls] at h; done) | rfl
    | value f => simp [cls] at h
    | invoke r m => simp [cls] at h
  case makeMap t r => cases r <;> rfl
  all_goals first | (exfalso; simp [cls] at h; done) | rfl
theorem aload_n (P : Program) (h : Tr Ob) (n m : Nat) (t : TypeId) (v : Value) : aload P ⟨h, n⟩ t v = aload P ⟨h, m⟩ t v := by unfold aload aloadCells; rfl
theorem aconv_n (P : Program) (h : Tr Ob) (n m : Nat) (a b : TypeId) (v : Value) : aconv P ⟨h, n⟩ a b v = aconv P ⟨h, m⟩ a b v := by unfold aconv; rfl
theorem aeq_n (P : Program) (h : Tr Ob) (n m : Nat) (t : TypeId) (v u : Value) : aeq P ⟨h, n⟩ t v u = aeq P ⟨h, m⟩ t v u := by unfold aeq; rfl
theorem acmp_n (P : Program) (h : Tr Ob) (n m : Nat) (op : BinOp) (t : TypeId) (v u : Value) : acmp P ⟨h, n⟩ op t v u = acmp P ⟨h, m⟩ op t v u := by unfold acmp; simp only [aeq_n P h n m]
theorem aslice_n (P : Program) (h : Tr Ob) (n m : Nat) (t : TypeId) (v : Value) (lo hi : Option Value) : aslice P ⟨h, n⟩ t v lo hi = aslice P ⟨h, m⟩ t v lo hi := by unfold aslice; rfl
theorem afindPtr_n (P : Program) (h : Tr Ob) (n m : Nat) (kt : TypeId) (k : Value) : ∀ (es : List MapEntry) (i : Nat), afindPtr P ⟨h, n⟩ kt k es i = afindPtr P ⟨h, m⟩ kt k es i
  | [], _ => rfl
  | e :: es, i => by simp only [afindPtr, aeq_n P h n m, afindPtr_n P h n m kt k es]
theorem afindK_n (P : Program) (h : Tr Ob) (n m : Nat) (b : Bool) (kt : TypeId) (k : Value) (es : List MapEntry) : afindK P ⟨h, n⟩ b kt k es = afindK P ⟨h, m⟩ b kt k es := by unfold afindK; simp only [afindPtr_n P h n m]
theorem alookup_n (P : Program) (h : Tr Ob) (n m : Nat) (t : TypeId) (v k : Value) (ok : Bool) : alookup P ⟨h, n⟩ t v k ok = alookup P ⟨h, m⟩ t v k ok := by unfold alookup aentries; simp only [afindK_n P h n m]
theorem alen_n (P : Program) (h : Tr Ob) (n m : Nat) (t : TypeId) (v : Value) : alen ⟨h, n⟩ P t v = alen ⟨h, m⟩ P t v := by unfold alen; rfl
theorem tv_new {x : Option Value} {ob : Ob} {mk : Nat → Value} (h : tv x = some (.new ob mk)) : False := by obtain ⟨v, _, e⟩ := tv_some h; cases e
/-- What reads the blocks, and makes one: it does so whatever they are. -/
theorem exec0_new {P : Program} {E : Operand → Option Value} {st : St} {o : Oper} (hc : cls o.op = .read) {ob : Ob} {mk : Nat → Value} (h : exec0 P E st o = some (.new ob mk)) (s : St) : exec0 P E s o = some (.new ob mk) := by
  obtain ⟨dst, op, type, pos, after, guard⟩ := o
  cases op
  case call c =>
    obtain ⟨callee, args, argTypes⟩ := c
    cases callee with
    | builtin b =>
      cases b <;> first | (exfalso; simp [cls] at hc; done) | skip
      obtain ⟨l1⟩ := args
      obtain ⟨l2⟩ := argTypes
      rcases l2 with _ | ⟨t, _ | ⟨t2, l2⟩⟩ <;> rcases l1 with _ | ⟨x, _ | ⟨x2, l1⟩⟩ <;> simp only [exec0] at h <;> first | (cases h; done) | (obtain ⟨v, _, h⟩ := b1_some h; exact (tv_new h).elim)
    | value f => simp [cls] at hc
    | invoke r m => simp [cls] at hc
  case load t a => simp only [exec0] at h; obtain ⟨v, _, h⟩ := b1_some h; exact (tv_new h).elim
  case binOp op t x y c => simp only [exec0] at h; obtain ⟨v, _, h⟩ := b1_some h; obtain ⟨v, _, h⟩ := b1_some h; exact (tv_new h).elim
  case slice t x lo hi mx =>
    cases mx <;> simp only [exec0] at h <;> first | (cases h; done) | skip
    obtain ⟨v, _, h⟩ := b1_some h
    split at h
    · exact (tv_new h).elim
    · cases h
  case lookup t m' k ok => simp only [exec0] at h; obtain ⟨v, _, h⟩ := b1_some h; obtain ⟨v, _, h⟩ := b1_some h; exact (tv_new h).elim
  case convert a b x =>
    simp only [exec0] at h ⊢
    cases hx : E x with
    | none => rw [hx] at h; cases h
    | some v =>
      rw [hx] at h
      simp only [b1] at h ⊢
      split at h
      · exact h
      · exact (tv_new h).elim
  all_goals (exfalso; simp [cls] at hc; done)
theorem exec0_read {P : Program} {E : Operand → Option Value} {h : Tr Ob} {n m : Nat} {o : Oper} (hc : cls o.op = .read) : exec0 P E ⟨h, n⟩ o = exec0 P E ⟨h, m⟩ o := by
  obtain ⟨dst, op, type, pos, after, guard⟩ := o
  cases op
  case call c =>
    obtain ⟨callee, args, argTypes⟩ := c
    cases callee with
    | builtin b =>
      cases b <;> first | (exfalso; simp [cls] at hc; done) | skip
      simp only [exec0, alen_n P h n m]
      obtain ⟨l1⟩ := args
      obtain ⟨l2⟩ := argTypes
      rcases l2 with _ | ⟨t, _ | ⟨t2, l2⟩⟩ <;> rcases l1 with _ | ⟨x, _ | ⟨x2, l1⟩⟩ <;> rfl
    | value f => simp [cls] at hc
    | invoke r m => simp [cls] at hc
  case load t a => simp only [exec0, aload_n P h n m]
  case convert a b x => simp only [exec0, aconv_n P h n m]
  case binOp op t x y c => simp only [exec0, acmp_n P h n m]
  case slice t x lo hi mx => cases mx <;> simp only [exec0, aslice_n P h n m]
  case lookup t m' k ok => simp only [exec0, alookup_n P h n m]
  all_goals (exfalso; simp [cls] at hc; done)

theorem exec1_any {P : Program} {oo : OpO} {E : Operand → Option Value} {st st' : St} {o : Oper} (h : cls o.op = .any) : exec1 P oo E st o = exec1 P oo E st' o := by
  unfold exec1
  rw [exec0_any (st := st) (st' := st') h]
theorem exec1_read {P : Program} {oo : OpO} {E : Operand → Option Value} {h : Tr Ob} {n m : Nat} {o : Oper} (hc : cls o.op = .read) : exec1 P oo E ⟨h, n⟩ o = exec1 P oo E ⟨h, m⟩ o := by
  unfold exec1
  rw [exec0_read (n := n) (m := m) hc]
theorem exec1_new {P : Program} {oo : OpO} {E : Operand → Option Value} {st : St} {o : Oper} (hc : cls o.op = .read) {ob : Ob} {mk : Nat → Value} (h : exec1 P oo E st o = some (.new ob mk)) (s : St) : exec1 P oo E s o = some (.new ob mk) := by
  unfold exec1 at h ⊢
  split at h
  · cases h
  · exact exec0_new hc h s

/-! ### the same value -/
def oaddrEq : Option Addr → Option Addr → Bool
  | none, none => true
  | some a, some b => addrEq a b
  | _, _ => false
theorem oaddr_eq {a b : Option Addr} (h : oaddrEq a b = true) : a = b := by
  cases a <;> cases b <;> first | rfl | (simp [oaddrEq] at h; done) | exact congrArg some (addr_eq h)
def onatEq : Option Nat → Option Nat → Bool
  | none, none => true
  | some a, some b => Nat.beq a b
  | _, _ => false
theorem onat_eq {a b : Option Nat} (h : onatEq a b = true) : a = b := by
  cases a <;> cases b <;> first | rfl | (simp [onatEq] at h; done) | exact congrArg some (Nat.eq_of_beq_eq_true h)

def listEq (f : Value → Value → Bool) : List Value → List Value → Bool
  | [], [] => true
  | x :: xs, y :: ys => f x y && listEq f xs ys
  | _, _ => false
theorem list_eq {f : Value → Value → Bool} (hf : ∀ v v', f v v' = true → v = v') : ∀ {xs ys : List Value}, listEq f xs ys = true → xs = ys
  | [], [], _ => rfl
  | [], _ :: _, h => by simp [listEq] at h
  | _ :: _, [], h => by simp [listEq] at h
  | x :: xs, y :: ys, h => by
    simp only [listEq, Bool.and_eq_true] at h
    rw [hf _ _ h.1, list_eq hf h.2]

def veq : Nat → Value → Value → Bool
  | 0, _, _ => false
  | f + 1, v, v' => match v with
    | .bool a => (match v' with | .bool b => decide (a = b) | _ => false)
    | .int k n => (match v' with | .int k' n' => decide (k = k') && decide (n = n') | _ => false)
    | .string s => (match v' with | .string s' => natsEq s.data.toList s'.data.toList | _ => false)
    | .pointer a => (match v' with | .pointer b => oaddrEq a b | _ => false)
    | .slice a l c => (match v' with | .slice a' l' c' => oaddrEq a a' && Nat.beq l l' && Nat.beq c c' | _ => false)
    | .map r => (match v' with | .map r' => onatEq r r' | _ => false)
    | .chan r => (match v' with | .chan r' => onatEq r r' | _ => false)
    | .nilFunc => (match v' with | .nilFunc => true | _ => false)
    | .nilIface => (match v' with | .nilIface => true | _ => false)
    | .func fn xs ys => (match v' with
      | .func fn' xs' ys' => (match fn, fn' with | .func k, .func k' => decide (k = k') | _, _ => false) && listEq (veq f) xs.toList xs'.toList && listEq (veq f) ys.toList ys'.toList
      | _ => false)
    | .iface t u => (match v' with | .iface t' u' => decide (t = t') && veq f u u' | _ => false)
    | .agg xs => (match v' with | .agg xs' => listEq (veq f) xs.toList xs'.toList | _ => false)
    | .tuple xs => (match v' with | .tuple xs' => listEq (veq f) xs.toList xs'.toList | _ => false)
    | _ => false

theorem veq_eq : ∀ {f : Nat} {v v' : Value}, veq f v v' = true → v = v' := by
  intro f
  induction f with
  | zero => intro v v' h; simp [veq] at h
  | succ f ih =>
    intro v v' h
    cases v <;> simp only [veq] at h <;> first | (cases h; done) | skip
    all_goals (split at h <;> first | (cases h; done) | skip)
    · rw [of_decide_eq_true h]
    · simp only [Bool.and_eq_true, decide_eq_true_eq] at h; rw [h.1, h.2]
    · rename_i s _ s'
      obtain ⟨⟨l⟩⟩ := s
      obtain ⟨⟨l'⟩⟩ := s'
      rw [show l = l' from nats_eq h]
    · rw [oaddr_eq h]
    · simp only [Bool.and_eq_true] at h; rw [oaddr_eq h.1.1, Nat.eq_of_beq_eq_true h.1.2, Nat.eq_of_beq_eq_true h.2]
    · rw [onat_eq h]
    · rw [onat_eq h]
    · simp only [Bool.and_eq_true] at h
      obtain ⟨⟨h1, h2⟩, h3⟩ := h
      split at h1
      · rw [of_decide_eq_true h1, Array.ext' (list_eq (fun _ _ => ih) h2), Array.ext' (list_eq (fun _ _ => ih) h3)]
      · cases h1
    · rfl
    · simp only [Bool.and_eq_true, decide_eq_true_eq] at h; rw [h.1, ih h.2]
    · rfl
    · rw [Array.ext' (list_eq (fun _ _ => ih) h)]
    · rw [Array.ext' (list_eq (fun _ _ => ih) h)]
end Go.Ev

namespace Go.Ev
open Go Go.RowKit

/-! ### the operations, each with those that come ahead of it -/
structure It where
  i : Nat
  o : Oper
  m : Nat
def edgeMask (ms : List Nat) (k : Nat) : List Edge → Nat → Option Nat
  | [], acc => some acc
  | e :: es, acc => if Region.binds .any e then (if Nat.blt e.on k then match nth ms (k - 1 - e.on) with
      | some m => edgeMask ms k es (Nat.lor (Nat.lor acc m) (2 ^ e.on))
      | none => none else none) else edgeMask ms k es acc
def items : List Oper → Nat → List Nat → Option (List It)
  | [], _, _ => some []
  | o :: os, k, ms => match edgeMask ms k o.after.toList 0 with
    | some m => match items os (k + 1) (m :: ms) with
      | some its => some (⟨k, o, m⟩ :: its)
      | none => none
    | none => none

def Closed (all : Array Oper) (L : Nat → Prop) : Prop := ∀ j oj, all[j]? = some oj → L j → ∀ e ∈ oj.after, Region.binds .any e = true → L e.on
structure ItOk (all : Array Oper) (it : It) : Prop where
  at' : all[it.i]? = some it.o
  pred : ∀ e ∈ it.o.after, Region.binds .any e = true → e.on < it.i ∧ Nat.testBit it.m e.on = true
  mask : ∀ L, Closed all L → (∀ e ∈ it.o.after, Region.binds .any e = true → L e.on) → ∀ j, Nat.testBit it.m j = true → L j
structure MaskInv (all : Array Oper) (k : Nat) (ms : List Nat) : Prop where
  len : ms.length = k
  mask : ∀ p m, p < k → nth ms (k - 1 - p) = some m → ∀ L, Closed all L → L p → ∀ j, Nat.testBit m j = true → L j

theorem testBit_lor (a b j : Nat) : Nat.testBit (Nat.lor a b) j = (Nat.testBit a j || Nat.testBit b j) := Nat.testBit_or a b j
theorem edgeMask_ok {all : Array Oper} {ms : List Nat} {k : Nat} (inv : MaskInv all k ms) : ∀ (es : List Edge) (acc m : Nat), edgeMask ms k es acc = some m →
    (∀ j, Nat.testBit acc j = true → Nat.testBit m j = true) ∧ (∀ e ∈ es, Region.binds .any e = true → e.on < k ∧ Nat.testBit m e.on = true) ∧
    (∀ L, Closed all L → (∀ j, Nat.testBit acc j = true → L j) → (∀ e ∈ es, Region.binds .any e = true → L e.on) → ∀ j, Nat.testBit m j = true → L j)
  | [], acc, m, h => by cases h; exact ⟨fun j h => h, fun e he => (by cases he), fun L _ h1 _ => h1⟩
  | e :: es, acc, m, h => by
    simp only [edgeMask] at h
    split at h
    · rename_i hb
      split at h
      · rename_i hlt
        have hlt : e.on < k := Nat.le_of_ble_eq_true hlt
        split at h
        · rename_i me hme
          obtain ⟨h1, h2, h3⟩ := edgeMask_ok inv es _ _ h
          refine ⟨fun j hj => h1 j (by simp [hj]), fun x hx hxb => ?_, fun L hL ha hes j hj => ?_⟩
          · rcases List.mem_cons.1 hx with rfl | hx
            · exact ⟨hlt, h1 _ (by simp)⟩
            · exact h2 x hx hxb
          · refine h3 L hL (fun j hj => ?_) (fun x hx => hes x (List.mem_cons_of_mem _ hx)) j hj
            simp only [testBit_lor, Bool.or_eq_true, Nat.testBit_two_pow, decide_eq_true_eq] at hj
            rcases hj with (hj | hj) | rfl
            · exact ha j hj
            · exact inv.mask e.on me hlt hme L hL (hes e (by simp) hb) j hj
            · exact hes e (by simp) hb
        · cases h
      · cases h
    · rename_i hb
      obtain ⟨h1, h2, h3⟩ := edgeMask_ok inv es _ _ h
      refine ⟨h1, fun x hx hxb => ?_, fun L hL ha hes => h3 L hL ha fun x hx => hes x (List.mem_cons_of_mem _ hx)⟩
      rcases List.mem_cons.1 hx with rfl | hx
      · exact absurd hxb hb
      · exact h2 x hx hxb
theorem items_ok {all : Array Oper} : ∀ (os : List Oper) (k : Nat) (ms : List Nat) (its : List It), (∀ j, os[j]? = all[k + j]?) → MaskInv all k ms → items os k ms = some its →
    (∀ it ∈ its, ItOk all it ∧ k ≤ it.i) ∧ (its.map (·.i)).Nodup ∧ (∀ j, k ≤ j → j < all.size → ∃ it ∈ its, it.i = j)
  | [], k, ms, its, hos, inv, h => by
    cases h
    refine ⟨fun it hit => (by cases hit), by simp, fun j hj hlt => ?_⟩
    have := hos (j - k)
    rw [show k + (j - k) = j by omega] at this
    simp at this
    omega
  | o :: os, k, ms, its, hos, inv, h => by
    simp only [items] at h
    split at h
    · rename_i m hm
      split at h
      · rename_i its' hits
        cases h
        obtain ⟨h1, h2, h3⟩ := edgeMask_ok inv _ _ _ hm
        have ok : ItOk all ⟨k, o, m⟩ := ⟨by simpa using (hos 0).symm, fun e he hb => h2 e (by simpa using he) hb,
          fun L hL hes j hj => h3 L hL (fun j hj => by simp at hj) (fun e he hb => hes e (by simpa using he) hb) j hj⟩
        have inv' : MaskInv all (k + 1) (m :: ms) := ⟨by simp [inv.len], fun p mp hp hn L hL hLp j hj => by
          by_cases hpk : p = k
          · subst hpk
            simp only [Nat.add_sub_cancel, Nat.sub_self, nth] at hn
            cases hn
            exact ok.mask L hL (fun e he hb => hL _ _ ok.at' hLp e he hb) j hj
          · rw [show k + 1 - 1 - p = (k - 1 - p) + 1 by omega] at hn
            exact inv.mask p mp (by omega) hn L hL hLp j hj⟩
        obtain ⟨k1, k2, k3⟩ := items_ok os (k + 1) (m :: ms) its' (fun j => by have := hos (j + 1); simpa [Nat.add_assoc, Nat.add_comm 1 j] using this) inv' hits
        refine ⟨fun it hit => ?_, ?_, fun j hj hlt => ?_⟩
        · rcases List.mem_cons.1 hit with rfl | hit
          · exact ⟨ok, Nat.le_refl _⟩
          · exact ⟨(k1 it hit).1, by have := (k1 it hit).2; omega⟩
        · simp only [List.map_cons, List.nodup_cons]
          refine ⟨fun hk => ?_, k2⟩
          obtain ⟨it, hit, he⟩ := List.mem_map.1 hk
          have := (k1 it hit).2
          omega
        · by_cases hjk : j = k
          · exact ⟨⟨k, o, m⟩, by simp, hjk.symm⟩
          · obtain ⟨it, hit, he⟩ := k3 j (by omega) hlt
            exact ⟨it, List.mem_cons_of_mem _ hit, he⟩
      · cases h
    · cases h

/-! ### what must hold of a region -/
def dmapF : List It → Tr (Nat × Nat) → Tr (Nat × Nat)
  | [], dm => dm
  | x :: xs, dm => dmapF xs (match x.o.dst with | some d => dm.put d (some (x.i, x.m)) | none => dm)
def chkDst (dm : Tr (Nat × Nat)) (x : It) : Bool := match x.o.dst with
  | some d => (match dm.get d with | some (j, m) => Nat.beq j x.i && Nat.beq m x.m | none => false)
  | none => true
/-- What an operation looks at is written ahead of it, or by itself, or behind it. -/
def chkLook (dm : Tr (Nat × Nat)) (x : It) : List Tmp → Bool
  | [] => true
  | t :: ts => (match dm.get t with | some (j, m) => Nat.testBit x.m j || (Nat.beq j x.i || Nat.testBit m x.i) | none => true) && chkLook dm x ts
def chkAll (ops : Array Oper) (dm : Tr (Nat × Nat)) : List It → Bool
  | [] => true
  | x :: xs => chkDst dm x && chkLook dm x (x.o.looksAt ops) && chkAll ops dm xs
structure Good (all : Array Oper) (its : List It) : Prop where
  ok : ∀ x ∈ its, ItOk all x
  nd : (its.map (·.i)).Nodup
  full : ∀ j, j < all.size → ∃ x ∈ its, x.i = j
  uniq : ∀ x ∈ its, ∀ y ∈ its, ∀ d, x.o.dst = some d → y.o.dst = some d → x.i = y.i
  look : ∀ x ∈ its, ∀ y ∈ its, ∀ d, y.o.dst = some d → d ∈ x.o.looksAt all → Nat.testBit x.m y.i = true ∨ y.i = x.i ∨ Nat.testBit y.m x.i = true
def regOf (all : Array Oper) : Option (List It) := match items all.toList 0 [] with
  | some its => if chkAll all (dmapF its .leaf) its then some its else none
  | none => none
theorem chkAll_mem {ops : Array Oper} {dm : Tr (Nat × Nat)} : ∀ {l : List It}, chkAll ops dm l = true → ∀ x ∈ l, chkDst dm x = true ∧ chkLook dm x (x.o.looksAt ops) = true
  | [], _, x, hx => by cases hx
  | y :: l, h, x, hx => by
    simp only [chkAll, Bool.and_eq_true] at h
    rcases List.mem_cons.1 hx with rfl | hx
    · exact h.1
    · exact chkAll_mem h.2 x hx
theorem chkLook_mem {dm : Tr (Nat × Nat)} {x : It} : ∀ {l : List Tmp}, chkLook dm x l = true → ∀ t ∈ l, ∀ j m, dm.get t = some (j, m) → Nat.testBit x.m j = true ∨ j = x.i ∨ Nat.testBit m x.i = true
  | [], _, t, ht, _, _, _ => by cases ht
  | y :: l, h, t, ht, j, m, hj => by
    simp only [chkLook, Bool.and_eq_true] at h
    rcases List.mem_cons.1 ht with rfl | ht
    · have := h.1
      rw [hj] at this
      simp only [Bool.or_eq_true] at this
      rcases this with h | h | h
      · exact .inl h
      · exact .inr (.inl (Nat.eq_of_beq_eq_true h))
      · exact .inr (.inr h)
    · exact chkLook_mem h.2 t ht j m hj
theorem regOf_good {all : Array Oper} {its : List It} (h : regOf all = some its) : Good all its := by
  unfold regOf at h
  split at h
  · rename_i its' hits
    split at h
    · rename_i hc
      cases h
      obtain ⟨h1, h2, h3⟩ := items_ok (all := all) all.toList 0 [] its (fun j => by simp) ⟨rfl, fun p _ hp => absurd hp (Nat.not_lt_zero p)⟩ hits
      have key : ∀ x ∈ its, ∀ d, x.o.dst = some d → (dmapF its .leaf).get d = some (x.i, x.m) := fun x hx d hd => by
        have := (chkAll_mem hc x hx).1
        simp only [chkDst, hd] at this
        split at this
        · rename_i j m hj
          simp only [Bool.and_eq_true] at this
          rw [hj, Nat.eq_of_beq_eq_true this.1, Nat.eq_of_beq_eq_true this.2]
        · cases this
      have hu : ∀ x ∈ its, ∀ y ∈ its, ∀ d, x.o.dst = some d → y.o.dst = some d → x.i = y.i := fun x hx y hy d hd1 hd2 => by
        have e1 := key x hx d hd1
        rw [key y hy d hd2] at e1
        simp only [Option.some.injEq, Prod.mk.injEq] at e1
        exact e1.1.symm
      have hl : ∀ x ∈ its, ∀ y ∈ its, ∀ d, y.o.dst = some d → d ∈ x.o.looksAt all → Nat.testBit x.m y.i = true ∨ y.i = x.i ∨ Nat.testBit y.m x.i = true := fun x hx y hy d hd hl => chkLook_mem (chkAll_mem hc x hx).2 d hl y.i y.m (key y hy d hd)
      exact ⟨fun x hx => (h1 x hx).1, h2, fun j hj => h3 j (Nat.zero_le _) hj, hu, hl⟩
    · cases h
  · cases h
end Go.Ev

