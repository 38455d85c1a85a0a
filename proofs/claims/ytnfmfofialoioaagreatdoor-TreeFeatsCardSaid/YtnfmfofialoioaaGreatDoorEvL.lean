/-
  Frames, calls, and regions whose order is fixed.
-/
import Derived.Test.YtnfmfofialoioaaGreatDoorEvK
import Derived.Tactics
namespace Go.Ev
open Go Go.RowKit

/-- defers: what is put off to the end of the call, the last one first: a function, and all that it is called with. -/
structure Fr where
  tmps : Tr Value
  size : Nat
  defers : List (Nat × List Value)
def Fr.E (f : Fr) : Operand → Option Value
  | .tmp t => f.tmps.get t
  | .const v => if plainB 3 v then some v else none
  | .global _ => none
  | .func k => some (.func (.func k) #[] #[])
def Fr.put (f : Fr) (dst : Option Tmp) (v : Value) : Fr := match dst with
  | some d => if Nat.blt d f.size then { f with tmps := f.tmps.put d (some v) } else f
  | none => f
inductive DsR (φ : Pm) : List (Nat × List Value) → List Deferred → Prop
  | nil : DsR φ [] []
  | cons {k : Nat} {args dargs cap : List Value} {ds : List (Nat × List Value)} {ds' : List Deferred} (h : LR φ args (dargs ++ cap)) (t : DsR φ ds ds') : DsR φ ((k, args) :: ds) ({ target := .fn (.func k) ⟨cap⟩, args := ⟨dargs⟩ } :: ds')
theorem DsR.mono {φ φ' : Pm} (hle : Le φ φ') {ds : List (Nat × List Value)} {ds' : List Deferred} (h : DsR φ ds ds') : DsR φ' ds ds' := by
  induction h with
  | nil => exact .nil
  | cons h _ ih => exact .cons (h.mono hle) ih
theorem DsR.nil_inv {φ : Pm} {ds : List Deferred} (h : DsR φ [] ds) : ds = [] := by cases h; rfl
structure FrR (φ : Pm) (f : Fr) (a : Act) : Prop where
  size : a.tmps.size = f.size
  tmps : ∀ t v, f.tmps.get t = some v → VR φ v (a.eval (.tmp t))
  defers : DsR φ f.defers a.defers
theorem Fr.put_defers (f : Fr) (d : Option Tmp) (v : Value) : (f.put d v).defers = f.defers := by
  unfold Fr.put; split
  · split <;> rfl
  · rfl
theorem Fr.put_size (f : Fr) (d : Option Tmp) (v : Value) : (f.put d v).size = f.size := by
  unfold Fr.put; split
  · split <;> rfl
  · rfl
theorem eval_put (a : Act) (d : Option Tmp) (v : Value) (t : Tmp) : (a.put d v).eval (.tmp t) = if d = some t ∧ t < a.tmps.size then v else a.eval (.tmp t) := by
  cases d with
  | none => simp [Act.put]
  | some d =>
    simp only [Act.put, Act.eval, Array.getD_eq_getD_getElem?, Array.getElem?_setIfInBounds]
    by_cases e : d = t
    · subst e
      by_cases h : d < a.tmps.size
      · simp [h]
      · simp [h]
    · simp [e]
theorem Fr.get_put (f : Fr) (d : Option Tmp) (v : Value) (t : Tmp) : (f.put d v).tmps.get t = if d = some t ∧ t < f.size then some v else f.tmps.get t := by
  cases d with
  | none => simp [Fr.put]
  | some d =>
    simp only [Fr.put]
    by_cases h : d < f.size
    · have : Nat.blt d f.size = true := Nat.ble_eq_true_of_le h
      simp only [this, if_true, Tr.get_put_eq]
      by_cases e : t = d
      · subst e; simp [h]
      · have : ¬ d = t := fun e' => e e'.symm
        simp [e, this]
    · have : Nat.blt d f.size = false := by
        cases hb : Nat.blt d f.size with
        | false => rfl
        | true => exact absurd (Nat.le_of_ble_eq_true hb) h
      simp only [this]
      by_cases e : d = t
      · subst e; simp [h]
      · simp [e]
theorem FrR.mono {φ φ' : Pm} {f : Fr} {a : Act} (h : FrR φ f a) (k : Le φ φ') : FrR φ' f a := ⟨h.size, fun t v e => (h.tmps t v e).mono k, h.defers.mono k⟩
theorem FrR.put {φ : Pm} {f : Fr} {a : Act} (h : FrR φ f a) {v v' : Value} (k : VR φ v v') (d : Option Tmp) : FrR φ (f.put d v) (a.put d v') := by
  refine ⟨?_, fun t u e => ?_, ?_⟩
  · rw [Fr.put_size]; cases d with
    | none => exact h.size
    | some d => simpa [Act.put] using h.size
  · rw [eval_put]
    rw [Fr.get_put] at e
    rw [h.size]
    split at e
    · rename_i hc; rw [if_pos hc]; cases e; exact k
    · rename_i hc; rw [if_neg hc]; exact h.tmps t u e
  · rw [Fr.put_defers]; cases d <;> exact h.defers
theorem FrR.E {φ : Pm} {f : Fr} {a : Act} (h : FrR φ f a) {x : Operand} {v : Value} (e : f.E x = some v) : VR φ v (a.eval x) := by
  cases x with
  | tmp t => exact h.tmps t v e
  | const u =>
    simp only [Fr.E] at e
    split at e
    · rename_i hp; cases e; exact plain_refl 3 _ hp
    · cases e
  | global g => cases e
  | func k => cases e; exact .func rfl (fun i v v' a => by simp at a) rfl (fun i v v' a => by simp at a)
theorem FrR.ER {φ : Pm} {f : Fr} {a : Act} (h : FrR φ f a) (o : Oper) : ER' φ f.E a.eval o := fun _ _ _ e => h.E e

/-! ### guards -/
def nth {α : Type} : List α → Nat → Option α
  | [], _ => none
  | x :: _, 0 => some x
  | _ :: xs, i + 1 => nth xs i
theorem nth_eq {α : Type} : ∀ (l : List α) (i : Nat), nth l i = l[i]?
  | [], _ => by simp [nth]
  | _ :: _, 0 => by simp [nth]
  | _ :: xs, i + 1 => by simp [nth, nth_eq xs i]
def awanted (ops : List Oper) (f : Fr) (o : Oper) : Option Bool := match o.guard with
  | none => some true
  | some (j, want) => match nth ops j with
    | some oj => match oj.dst with
      | some t => match f.tmps.get t with
        | some (.bool b) => some (b == want)
        | some (.tuple _) => some false
        | _ => none
      | none => none
    | none => none
theorem awanted_ok {φ : Pm} {f : Fr} {a : Act} (h : FrR φ f a) {ops : Array Oper} {o : Oper} {b : Bool} (e : awanted ops.toList f o = some b) : Region.wanted o (yielded ops a.tmps) = b := by
  unfold awanted at e
  unfold Region.wanted
  split at e
  · rename_i hg; cases e; simp [hg]
  · rename_i j want hg
    simp only [hg]
    split at e
    · rename_i oj ho
      rw [nth_eq] at ho
      have ho : ops[j]? = some oj := by simpa using ho
      split at e
      · rename_i t ht
        have key : ∀ v, f.tmps.get t = some v → (leafB v = true ∧ v ≠ undef ∨ ∃ xs, v = .tuple xs) → (∃ v', a.tmps[t]? = some v' ∧ VR φ v v') ∨ a.tmps[t]? = none := fun v hv _ => by
          have := h.tmps t v hv
          simp only [Act.eval, Array.getD_eq_getD_getElem?] at this
          cases hx : a.tmps[t]? with
          | none => exact .inr rfl
          | some v' => rw [hx] at this; exact .inl ⟨v', rfl, this⟩
        split at e
        · rename_i c hc
          cases e
          have hv := h.tmps t _ hc
          have : a.tmps[t]? = some (.bool c) := by
            simp only [Act.eval, Array.getD_eq_getD_getElem?] at hv
            cases hx : a.tmps[t]? with
            | none => rw [hx] at hv; simp only [Option.getD_none, undef] at hv; cases hv
            | some v' => rw [hx] at hv; simp only [Option.getD_some] at hv; cases hv; rfl
          simp [yielded, ho, ht, this]
        · rename_i xs hc
          cases e
          have hv := h.tmps t _ hc
          simp only [Act.eval, Array.getD_eq_getD_getElem?] at hv
          cases hx : a.tmps[t]? with
          | none => simp [yielded, ho, ht, hx]
          | some v' =>
            rw [hx] at hv
            simp only [Option.getD_some] at hv
            cases hv with
            | leaf hl => simp [leafB] at hl
            | tuple => simp [yielded, ho, ht, hx]
        · cases e
      · cases e
    · cases e

/-! ### calls -/
abbrev CallF := FuncId → List Value → St → Option (Value × St)
abbrev Tab := List (Nat × Func)
def Tab.find : Tab → Nat → Option Func
  | [], _ => none
  | (k, fn) :: l, n => if Nat.beq k n then some fn else Tab.find l n
def Tab.ok (P : Program) (tab : Tab) : Prop := ∀ k fn, tab.find k = some fn → P.funcs[k]? = some fn ∧ ∀ args w, (callFunc k args).run P w = .ok (.enter k args) w
def CallOk (P : Program) (oo : OpO) (w0 : W0) (call : CallF) : Prop := OpOk P w0 oo ∧ ∀ k args st v st', call k args st = some (v, st') → ∀ φ w args', HR w0 φ st w → LR φ args args' →
  ((∀ w, (callFunc k ⟨args'⟩).run P w = .ok (.enter k ⟨args'⟩) w) ∧ Calls P k ⟨args'⟩ w fun e w' => ∃ v' φ', e = .returned v' ∧ HR w0 φ' st' w' ∧ Kept st φ st' φ' ∧ VR φ' v v') ∨
  (∃ φ' v' w', (callFunc k ⟨args'⟩).run P w = .ok (.value v') w' ∧ HR w0 φ' st' w' ∧ Kept st φ st' φ' ∧ VR φ' v v')

def acall (call : CallF) (E : Operand → Option Value) (c : Call) (st : St) : Option (Value × St) := match c.callee with
  | .value f => match E f with
    | some (.func (.func k) xs ys) => match evL E c.args.toList with
      | some vs => call k (xs.toList ++ vs ++ ys.toList) st
      | none => none
    | _ => none
  | _ => none
theorem acall_ok {P : Program} {oo : OpO} {call : CallF} {w0 : W0} (hc : CallOk P oo w0 call) {w : World} {φ : Pm} {st : St} (H : HR w0 φ st w) {E : Operand → Option Value} {o : Oper} {c : Call} (ho : o.op = .call c) {a : Act} (hE : ER' φ E a.eval o)
    {v : Value} {st' : St} (h : acall call E c st = some (v, st')) {next : Act → World → Prop} {Q : Exit → Act → World → Prop}
    (hn : ∀ φ' v' w', HR w0 φ' st' w' → Kept st φ st' φ' → VR φ' v v' → next (a.put o.dst v') w') : o.wp P a w next Q := by
  unfold acall at h
  have hops : o.op.operands = c.operands := by rw [ho]; rfl
  split at h
  · rename_i f hf
    split at h
    · rename_i k xs ys hk
      split at h
      · rename_i vs hvs
        have h1 : VR φ (.func (.func k) xs ys) (a.eval f) := hE f (by rw [hops]; simp [Call.operands, hf]) _ hk
        have h2 := evL_ok (φ := φ) (ρ := a.eval) (fun x hx => hE x (by rw [hops]; simp only [Call.operands, Array.mem_append]; exact .inr (by simpa using hx))) hvs
        generalize hx : a.eval f = x at h1
        cases h1 with
        | leaf hl => simp [leafB] at hl
        | @func _ _ xs' _ ys' s1 e1 s2 e2 =>
          have hl : LR φ (xs.toList ++ vs ++ ys.toList) (xs'.toList ++ c.args.toList.map a.eval ++ ys'.toList) :=
            (LR.append ⟨by simpa using s1, fun i v v' p q => e1 i v v' (by simpa using p) (by simpa using q)⟩ h2).append ⟨by simpa using s2, fun i v v' p q => e2 i v v' (by simpa using p) (by simpa using q)⟩
          have hcall := fun w (H : HR w0 φ st w) => hc.2 _ _ _ _ _ h φ w _ H hl
          have hrun : (execOp a.eval o).run P w = (callFunc k ⟨xs'.toList ++ c.args.toList.map a.eval ++ ys'.toList⟩).run P w := by
            have e : (xs' ++ Array.map a.eval c.args ++ ys') = ⟨xs'.toList ++ c.args.toList.map a.eval ++ ys'.toList⟩ := by apply Array.ext'; simp
            simp only [execOp, ho, resolve, hf, hx, Deferred.ofValue, invoke, Sem.run_bind, Sem.run_pure, Result.andThen_ok]
            rw [e]
          unfold Oper.wp
          rw [hrun]
          rcases hcall w H with ⟨q1, q2⟩ | ⟨φ', v', w', q1, q2, q3, q4⟩
          · rw [q1 w]
            refine Calls.mono q2 ?_
            rintro e w' ⟨v', φ', rfl, k1, k2, k3⟩
            exact hn φ' v' w' k1 k2 k3
          · rw [q1]
            exact hn φ' v' w' q2 q3 q4
      · cases h
    · cases h
  · cases h

/-! ### what an operation gives, in a frame -/
def isFn : Op → Option Call | .call c => (match c.callee with | .builtin _ => none | _ => some c) | _ => none
def evGot (P : Program) (oo : OpO) (call : CallF) (E : Operand → Option Value) (st : St) (o : Oper) : Option Out := match isFn o.op with
  | some c => match acall call E c st with
    | some (v, st') => some (.eff v st')
    | none => none
  | none => exec1 P oo E st o
def Out.thn (w0 : W0) (φ : Pm) (st : St) (w : World) (K : Value → World → Prop) : Out → Prop
  | .val v => ∀ v' w', Same w w' → VR φ v v' → K v' w'
  | .new ob mk => ∀ ob' v' w' S g z, w'.heap = w.heap.push ob' → w'.os = w.os → w'.tape = w.tape → w'.output = w.output →
      (∀ φ' b, Le φ φ' → φ' b = .live w.heap.size 0 S g z → OR φ' ob (some ob') 0 S g z ∧ VR φ' (mk b) v') → K v' w'
  | .eff v st' => ∀ φ' v' w', HR w0 φ' st' w' → Kept st φ st' φ' → VR φ' v v' → K v' w'
theorem isFn_some {p : Op} {c : Call} (h : isFn p = some c) : p = .call c := by
  unfold isFn at h
  split at h
  · split at h
    · cases h
    · cases h; rfl
  · cases h
theorem evGot_wp {P : Program} {oo : OpO} {call : CallF} {w0 : W0} (hc : CallOk P oo w0 call) {w : World} {φ : Pm} {st : St} (H : HR w0 φ st w) {E : Operand → Option Value} {o : Oper} {a : Act} (hE : ER' φ E a.eval o)
    {u : Out} (h : evGot P oo call E st o = some u) {next : Act → World → Prop} {Q : Exit → Act → World → Prop} (hn : u.thn w0 φ st w fun v' w' => next (a.put o.dst v') w') : o.wp P a w next Q := by
  unfold evGot at h
  split at h
  · rename_i c hfn
    split at h
    · rename_i v st' hcall
      cases h
      exact acall_ok hc H (isFn_some hfn) hE hcall hn
    · cases h
  · have hok := exec1_ok (P := P) hc.1 H hE h
    unfold Oper.wp
    cases u with
    | val v =>
      obtain ⟨v', w', h1, h2, h3⟩ := hok
      rw [h1]; exact hn v' w' h2 h3
    | new ob mk =>
      obtain ⟨ob', v', w', S, g, z, h1, h2, h3, h4, h5, h6⟩ := hok
      rw [h1]; exact hn ob' v' w' S g z h2 h3 h4 h5 h6
    | eff v st' =>
      obtain ⟨φ', w', h1, h2, h3⟩ := hok
      rcases h3 with ⟨v', h3, h4⟩ | ⟨h3, h4⟩
      · rw [h3]; exact hn φ' v' w' h1 h2 h4
      · rw [h3]; subst h4; exact hn φ' undef w' h1 h2 (VR.undef _)

/-! ### regions in their order -/
def Out.to (st : St) : Out → Value × St
  | .val v => (v, st)
  | .new ob mk => (mk st.next, ⟨st.heap.put st.next (some ob), st.next + 1⟩)
  | .eff v st' => (v, st')
def evDefer (f : Fr) (o : Oper) : Option Fr := match o.op with
  | .defer c => match c.callee with
    | .value x => match f.E x with
      | some (.func (.func k) xs ys) => match evL f.E c.args.toList with
        | some vs => some { f with defers := (k, xs.toList ++ vs ++ ys.toList) :: f.defers }
        | none => none
      | _ => none
    | _ => none
  | _ => none
theorem evDefer_wp {P : Program} {φ : Pm} {f f1 : Fr} {a : Act} (F : FrR φ f a) {o : Oper} (h : evDefer f o = some f1) {w : World} {next : Act → World → Prop} {Q : Exit → Act → World → Prop}
    (hn : ∀ a1, FrR φ f1 a1 → next (a1.put o.dst undef) w) : o.wp P a w next Q := by
  unfold evDefer at h
  split at h
  · rename_i c ho
    have hops : o.op.operands = c.operands := by rw [ho]; rfl
    have hE := F.ER o
    split at h
    · rename_i x hx
      split at h
      · rename_i k xs ys hk
        split at h
        · rename_i vs hvs
          cases h
          have h1 : VR φ (.func (.func k) xs ys) (a.eval x) := hE x (by rw [hops]; simp [Call.operands, hx]) _ hk
          have h2 := evL_ok (φ := φ) (ρ := a.eval) (fun x hx => hE x (by rw [hops]; simp only [Call.operands, Array.mem_append]; exact .inr (by simpa using hx))) hvs
          generalize hv : a.eval x = v at h1
          cases h1 with
          | leaf hl => simp [leafB] at hl
          | @func _ _ xs' _ ys' s1 e1 s2 e2 =>
            have hl : LR φ (xs.toList ++ vs ++ ys.toList) ((xs'.toList ++ c.args.toList.map a.eval) ++ ys'.toList) :=
              (LR.append ⟨by simpa using s1, fun i v v' p q => e1 i v v' (by simpa using p) (by simpa using q)⟩ h2).append ⟨by simpa using s2, fun i v v' p q => e2 i v v' (by simpa using p) (by simpa using q)⟩
            have hrun : (execOp a.eval o).run P w = .ok (.defer { target := .fn (.func k) ⟨ys'.toList⟩, args := ⟨xs'.toList ++ c.args.toList.map a.eval⟩ }) w := by
              have e : xs' ++ Array.map a.eval c.args = ⟨xs'.toList ++ c.args.toList.map a.eval⟩ := by apply Array.ext'; simp
              simp only [execOp, ho, resolve, hx, hv, Deferred.ofValue, Sem.run_bind, Sem.run_pure, Result.andThen_ok]
              rw [e]
            unfold Oper.wp
            rw [hrun]
            exact hn _ ⟨F.size, F.tmps, .cons hl F.defers⟩
        · cases h
      · cases h
    · cases h
  · cases h
def evOps (P : Program) (oo : OpO) (call : CallF) (ops : List Oper) : List Oper → Fr → St → Option (Fr × St)
  | [], f, st => some (f, st)
  | o :: rest, f, st => match awanted ops f o with
    | some false => evOps P oo call ops rest (f.put o.dst undef) st
    | some true => match evDefer f o with
     | some f1 => evOps P oo call ops rest (f1.put o.dst undef) st
     | none => match evGot P oo call f.E st o with
      | some u => match u.to st with
        | (v, st') => evOps P oo call ops rest (f.put o.dst v) st'
      | none => none
    | none => none
theorem thn_to {w0 : W0} {w : World} {φ : Pm} {st : St} (H : HR w0 φ st w) {K : Value → World → Prop} {u : Out} (h : ∀ φ' v' w', HR w0 φ' (u.to st).2 w' → Kept st φ (u.to st).2 φ' → VR φ' (u.to st).1 v' → K v' w') : u.thn w0 φ st w K := by
  cases u with
  | val v => exact fun v' w' h1 h2 => h φ v' w' (H.same h1) (Kept.refl _ _) h2
  | new ob mk =>
    intro ob' v' w' S g z h1 h2 h3 h4 h5
    have hb := H.fresh st.next (Nat.le_refl _)
    obtain ⟨k1, k2⟩ := h5 (φ.tell st.next (.live w.heap.size 0 S g z)) st.next (Le.tell hb) (Pm.tell_same _ _ _)
    refine h _ v' w' (H.new hb (Nat.le_succ _) (Nat.lt_succ_self _) h1 h2 h3 h4 k1) ⟨Nat.le_succ _, Le.tell hb, fun c hc hn => ?_⟩ k2
    have : c ≠ st.next := by omega
    refine ⟨by rw [Pm.tell_other _ _ _ _ this]; exact hn, ?_⟩
    show (st.heap.put st.next (some ob)).get c = _
    rw [Tr.get_put_eq, if_neg this]
  | eff v st' => exact h
theorem evOps_wp {P : Program} {oo : OpO} {call : CallF} {w0 : W0} (hc : CallOk P oo w0 call) {ops : Array Oper} {Q : Exit → Act → World → Prop} : ∀ (l : List Oper) (f : Fr) (st : St) (f' : Fr) (st' : St) (φ : Pm) (a : Act) (w : World), evOps P oo call ops.toList l f st = some (f', st') →
    HR w0 φ st w → FrR φ f a → (∀ φ' a' w', HR w0 φ' st' w' → Kept st φ st' φ' → FrR φ' f' a' → Q .normal a' w') → wpList P ops Q l a w
  | [], f, st, f', st', φ, a, w, h, H, F, hQ => by
    cases h
    exact hQ φ a w H (Kept.refl _ _) F
  | o :: rest, f, st, f', st', φ, a, w, h, H, F, hQ => by
    unfold wpList
    simp only [evOps] at h
    split at h
    · rename_i hw
      rw [awanted_ok F hw]
      exact evOps_wp hc rest _ _ _ _ φ _ w h H (F.put (VR.undef φ) _) hQ
    · rename_i hw
      rw [awanted_ok F hw]
      simp only [if_true]
      split at h
      · rename_i f1 hd
        exact .inl (evDefer_wp F hd fun a1 F1 => evOps_wp hc rest _ _ _ _ φ _ w h H (F1.put (VR.undef φ) _) hQ)
      split at h
      · rename_i u hu
        refine .inl (evGot_wp hc H (F.ER o) hu (thn_to H fun φ' v' w' h1 h2 h3 => ?_))
        exact evOps_wp hc rest _ _ _ _ φ' _ w' h h1 ((F.mono h2.le).put h3 _) fun φ'' a' w'' k1 k2 k3 => hQ φ'' a' w'' k1 (h2.trans k2) k3
      · cases h
    · cases h
end Go.Ev
