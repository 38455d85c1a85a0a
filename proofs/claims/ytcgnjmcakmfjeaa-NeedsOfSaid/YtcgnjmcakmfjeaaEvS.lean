/-
  Code and calls, told plainly; and that the model's run is the same.
-/
import Derived.Test.YtcgnjmcakmfjeaaEvR
import Derived.LoopN
import Derived.Scope
namespace Go.Ev
open Go Go.RowKit

inductive Ex where
  | nrm
  | exit (id : Nat)
  | ret
def Ex.to : Ex → Exit
  | .nrm => .normal
  | .exit i => .exit i
  | .ret => .ret
abbrev Res := Option (Ex × Fr × St)
def loopN (body : Fr → St → Res) : Nat → Fr → St → Res
  | 0, _, _ => none
  | n + 1, f, st => match body f st with
    | some (.nrm, f', st') => loopN body n f' st'
    | some (.exit i, f', st') => some (.exit i, f', st')
    | some (.ret, f', st') => some (.ret, f', st')
    | none => none
def evReg (P : Program) (call : CallF) (ops : Array Oper) (d : Bool) (f : Fr) (st : St) : Option (Fr × St) := match d with
  | true => draw P call ops f st
  | false => evOps P call ops.toList ops.toList f st
def evC (P : Program) (call : CallF) (N : Nat) : Code → Fr → St → Res
  | .skip, f, st => some (.nrm, f, st)
  | .region _ ops d, f, st => match evReg P call ops d f st with
    | some (f', st') => some (.nrm, f', st')
    | none => none
  | .seq a b, f, st => match evC P call N a f st with
    | some (.nrm, f', st') => evC P call N b f' st'
    | some (.exit i, f', st') => some (.exit i, f', st')
    | some (.ret, f', st') => some (.ret, f', st')
    | none => none
  | .cond c x y, f, st => match f.E c with
    | some (.bool true) => evC P call N x f st
    | some (.bool false) => evC P call N y f st
    | _ => none
  | .block id c, f, st => match evC P call N c f st with
    | some (.nrm, f', st') => some (.nrm, f', st')
    | some (.exit i, f', st') => if Nat.beq i id then some (.nrm, f', st') else some (.exit i, f', st')
    | some (.ret, f', st') => some (.ret, f', st')
    | none => none
  | .loop c, f, st => loopN (evC P call N c) N f st
  | .exit id, f, st => some (.exit id, f, st)
  | .scope c, f, st => evC P call N c f st
  | .label _, f, st => some (.nrm, f, st)
  | .ret, f, st => some (.ret, f, st)
  | _, _, _ => none

theorem evReg_wp {P : Program} (hm : P.follows .mixedOrders = true) {call : CallF} (hcall : CallOk P call) {w0 : World} {id : Nat} {ops : Array Oper} {d : Bool} {f f' : Fr} {st st' : St} (h : evReg P call ops d f st = some (f', st'))
    {φ : Pm} {a : Act} {w : World} (H : HR w0 φ st w) (F : FrR φ f a) {Q : Exit → Act → World → Prop}
    (hQ : ∀ φ' a' w', HR w0 φ' st' w' → Kept st φ st' φ' → FrR φ' f' a' → Q .normal a' w') : (Code.region id ops d).wp P Q a w := by
  cases d with
  | true => exact draw_wp hcall hm h H F hQ
  | false =>
    refine wp_region ?_
    have e := wpOps_eq_wpList (P := P) (ops := ops) (Q := Q) ops.toList 0 (fun j => by simp)
    rw [Array.length_toList, ← List.range_eq_range'] at e
    rw [e]
    exact evOps_wp hcall _ _ _ _ _ φ a w h H F hQ

/-- What holds where a run of the code comes to. -/
def Ends (w0 : World) (st : St) (φ : Pm) (e : Ex) (f' : Fr) (st' : St) (Q : Exit → Act → World → Prop) : Prop :=
  ∀ φ' a' w', HR w0 φ' st' w' → Kept st φ st' φ' → FrR φ' f' a' → Q e.to a' w'
def Runs (P : Program) (w0 : World) (c : Code) (ev : Fr → St → Res) : Prop := ∀ f st e f' st', ev f st = some (e, f', st') → ∀ φ a w, HR w0 φ st w → FrR φ f a → ∀ Q, Ends w0 st φ e f' st' Q → c.wp P Q a w
theorem loopN_wp {P : Program} {w0 : World} {c : Code} {ev : Fr → St → Res} (hc : Runs P w0 c ev) : ∀ (n : Nat) (f : Fr) (st : St) (e : Ex) (f' : Fr) (st' : St), loopN ev n f st = some (e, f', st') →
    ∀ φ a w, HR w0 φ st w → FrR φ f a → ∀ Q, Ends w0 st φ e f' st' Q → Code.rounds P c Q n a w
  | 0, _, _, _, _, _, h => by cases h
  | n + 1, f, st, e, f', st', h => by
    intro φ a w H F Q hQ
    simp only [loopN] at h
    rw [rounds_succ]
    split at h
    · rename_i f1 st1 h1
      refine hc _ _ _ _ _ h1 φ a w H F _ fun φ1 a1 w1 H1 K1 F1 => ?_
      exact loopN_wp hc n _ _ _ _ _ h φ1 a1 w1 H1 F1 Q fun φ2 a2 w2 H2 K2 F2 => hQ φ2 a2 w2 H2 (K1.trans K2) F2
    · rename_i i f1 st1 h1
      cases h
      exact hc _ _ _ _ _ h1 φ a w H F _ hQ
    · rename_i f1 st1 h1
      cases h
      exact hc _ _ _ _ _ h1 φ a w H F _ hQ
    · cases h

theorem evC_wp {P : Program} (hm : P.follows .mixedOrders = true) {call : CallF} (hcall : CallOk P call) (N : Nat) (w0 : World) : ∀ c, Runs P w0 c (evC P call N c) := by
  intro c
  induction c with
  | skip => intro f st e f' st' h φ a w H F Q hQ; cases h; exact wp_skip (hQ φ a w H (Kept.refl _ _) F)
  | label l => intro f st e f' st' h φ a w H F Q hQ; cases h; exact wp_label (hQ φ a w H (Kept.refl _ _) F)
  | exit id => intro f st e f' st' h φ a w H F Q hQ; cases h; exact wp_exit (hQ φ a w H (Kept.refl _ _) F)
  | ret => intro f st e f' st' h φ a w H F Q hQ; cases h; exact wp_ret (hQ φ a w H (Kept.refl _ _) F)
  | goto l => intro f st e f' st' h; cases h
  | refuse y => intro f st e f' st' h; cases h
  | rangeFunc f p x y _ _ => intro f st e f' st' h; cases h
  | region id ops d =>
    intro f st e f' st' h φ a w H F Q hQ
    simp only [evC] at h
    split at h
    · rename_i f1 st1 h1
      cases h
      exact evReg_wp hm hcall h1 H F hQ
    · cases h
  | seq x y ihx ihy =>
    intro f st e f' st' h φ a w H F Q hQ
    simp only [evC] at h
    refine wp_seq ?_
    split at h
    · rename_i f1 st1 h1
      refine ihx _ _ _ _ _ h1 φ a w H F _ fun φ1 a1 w1 H1 K1 F1 => ?_
      exact ihy _ _ _ _ _ h φ1 a1 w1 H1 F1 Q fun φ2 a2 w2 H2 K2 F2 => hQ φ2 a2 w2 H2 (K1.trans K2) F2
    · rename_i i f1 st1 h1
      cases h
      exact ihx _ _ _ _ _ h1 φ a w H F _ hQ
    · rename_i f1 st1 h1
      cases h
      exact ihx _ _ _ _ _ h1 φ a w H F _ hQ
    · cases h
  | cond c x y ihx ihy =>
    intro f st e f' st' h φ a w H F Q hQ
    simp only [evC] at h
    split at h
    · rename_i hb
      have := F.E hb
      refine wp_cond_true ?_ (ihx _ _ _ _ _ h φ a w H F Q hQ)
      generalize a.eval c = v at this
      cases this; rfl
    · rename_i hb
      have := F.E hb
      refine wp_cond_false ?_ (ihy _ _ _ _ _ h φ a w H F Q hQ)
      generalize a.eval c = v at this
      cases this; rfl
    · cases h
  | block id c ih =>
    intro f st e f' st' h φ a w H F Q hQ
    simp only [evC] at h
    refine wp_block ?_
    split at h
    · rename_i f1 st1 h1
      cases h
      exact ih _ _ _ _ _ h1 φ a w H F _ hQ
    · rename_i i f1 st1 h1
      refine ih _ _ _ _ _ h1 φ a w H F _ ?_
      split at h
      · rename_i hi
        cases h
        intro φ1 a1 w1 H1 K1 F1
        simp only [Ex.to, Exit.inBlock, Nat.eq_of_beq_eq_true hi, if_true]
        exact hQ φ1 a1 w1 H1 K1 F1
      · rename_i hi
        cases h
        intro φ1 a1 w1 H1 K1 F1
        have hne : ¬ i = id := fun e => hi (by rw [e]; exact Nat.beq_refl id)
        simp only [Ex.to, Exit.inBlock, hne, if_false]
        exact hQ φ1 a1 w1 H1 K1 F1
    · rename_i f1 st1 h1
      cases h
      exact ih _ _ _ _ _ h1 φ a w H F _ hQ
    · cases h
  | loop c ih =>
    intro f st e f' st' h φ a w H F Q hQ
    exact wp_loop_rounds N (loopN_wp ih N _ _ _ _ _ h φ a w H F Q hQ)
  | scope c ih =>
    intro f st e f' st' h φ a w H F Q hQ
    refine wp_scope_straight (ih _ _ _ _ _ h φ a w H F _ fun φ1 a1 w1 H1 K1 F1 => ?_)
    have := hQ φ1 a1 w1 H1 K1 F1
    cases e <;> exact this

/-! ### calls -/
def ares (P : Program) (st : St) (f : Fr) : List ResultVar → Option (List Value)
  | [] => some []
  | .tmp t :: rs => match f.tmps.get t with
    | some v => match ares P st f rs with
      | some vs => some (v :: vs)
      | none => none
    | none => none
  | .cell x t :: rs => match f.tmps.get x with
    | some v => match aload P st t v with
      | some u => match ares P st f rs with
        | some vs => some (u :: vs)
        | none => none
      | none => none
    | none => none
def ares1 : List Value → Value
  | [v] => v
  | vs => .tuple ⟨vs⟩
theorem ares_ok {P : Program} {w0 w : World} {φ : Pm} {st : St} (H : HR w0 φ st w) {f : Fr} {a : Act} (F : FrR φ f a) : ∀ (rs : List ResultVar) (vs : List Value), ares P st f rs = some vs →
    ∃ vs', (rs.mapM fun | ResultVar.tmp t => (pure (a.tmps.getD t undef) : Sem Value) | ResultVar.cell x t => do loadVar t (← asAddr (a.tmps.getD x undef))).run P w = .ok vs' w ∧ LR φ vs vs'
  | [], vs, h => by cases h; exact ⟨[], by simp, LR.nil⟩
  | .tmp t :: rs, vs, h => by
    simp only [ares] at h
    split at h
    · rename_i v hv
      split at h
      · rename_i vs1 h1
        cases h
        obtain ⟨vs', k1, k2⟩ := ares_ok H F rs vs1 h1
        refine ⟨a.tmps.getD t undef :: vs', ?_, LR.cons (F.tmps t v hv) k2⟩
        simp only [List.mapM_cons, Sem.run_bind, Sem.run_pure, Result.andThen_ok, k1]
      · cases h
    · cases h
  | .cell x t :: rs, vs, h => by
    simp only [ares] at h
    split at h
    · rename_i v hv
      split at h
      · rename_i u hu
        split at h
        · rename_i vs1 h1
          cases h
          obtain ⟨vs', k1, k2⟩ := ares_ok H F rs vs1 h1
          have hx := F.tmps x v hv
          have e : ∃ b, v = .pointer (some b) := by
            unfold aload at hu
            split at hu
            · exact ⟨_, rfl⟩
            · cases hu
          obtain ⟨b, rfl⟩ := e
          have hx : VR φ (.pointer (some b)) (a.tmps.getD x undef) := hx
          obtain ⟨b', hb, e⟩ : ∃ b', AR φ b b' ∧ a.tmps.getD x undef = .pointer (some b') := by
            generalize a.tmps.getD x undef = y at hx
            cases hx with
            | leaf hl => simp [leafB] at hl
            | ptr ha => exact ⟨_, ha, rfl⟩
          obtain ⟨u', r1, r2⟩ := run_aloadVar H hb hu
          refine ⟨u' :: vs', ?_, LR.cons r2 k2⟩
          have ea : (asAddr (a.tmps.getD x undef)).run P w = .ok b' w := by rw [e]; rfl
          simp only [List.mapM_cons, Sem.run_bind, Sem.run_pure, Result.andThen_ok, ea, r1, k1]
        · cases h
      · cases h
    · cases h
theorem run_results {P : Program} {w : World} {fn : Func} {tmps : Array Value} {vs : List Value}
    (h : (fn.results.toList.mapM fun | ResultVar.tmp t => (pure (tmps.getD t undef) : Sem Value) | ResultVar.cell x t => do loadVar t (← asAddr (tmps.getD x undef))).run P w = .ok vs w) :
    (results fn tmps).run P w = .ok (ares1 vs) w := by
  unfold results
  rw [Array.mapM_eq_mapM_toList]
  simp only [Sem.run_bind, map_eq_pure_bind, Sem.run_pure, bind_assoc, pure_bind]
  refine Eq.trans (congrArg (Result.andThen · _) h) ?_
  simp only [Result.andThen_ok]
  congr 1
  rcases vs with _ | ⟨v, _ | ⟨u, vs⟩⟩ <;> simp [ares1]
theorem LR.ares1 {φ : Pm} {vs vs' : List Value} (h : LR φ vs vs') : VR φ (ares1 vs) (ares1 vs') := by
  rcases vs with _ | ⟨v, _ | ⟨u, vs⟩⟩ <;> rcases vs' with _ | ⟨v', _ | ⟨u', vs'⟩⟩ <;> first | exact VR.tuple_iff.2 h | exact h.cons_inv.1 | (have := h.1; simp at this)

def enterT : List Value → Nat → Tr Value → Tr Value
  | [], _, t => t
  | v :: vs, i, t => enterT vs (i + 1) (t.put i (some v))
theorem enterT_get : ∀ (vs : List Value) (i : Nat) (t : Tr Value) (n : Nat), (enterT vs i t).get n = if i ≤ n ∧ n < i + vs.length then vs[n - i]? else t.get n
  | [], i, t, n => by
    have : ¬ (i ≤ n ∧ n < i + ([] : List Value).length) := by simp
    rw [if_neg this]; rfl
  | v :: vs, i, t, n => by
    simp only [enterT, enterT_get vs, Tr.get_put_eq, List.length_cons]
    by_cases h1 : i + 1 ≤ n ∧ n < i + 1 + vs.length
    · have h2 : i ≤ n ∧ n < i + (vs.length + 1) := by omega
      rw [if_pos h1, if_pos h2, show n - i = (n - (i + 1)) + 1 by omega, List.getElem?_cons_succ]
    · rw [if_neg h1]
      by_cases e : n = i
      · subst e
        rw [if_pos rfl, if_pos (by omega)]
        simp
      · rw [if_neg e, if_neg (by omega)]
def entered (args : List Value) (n : Nat) : Fr := ⟨enterT args 0 .leaf, args.length + (n - args.length)⟩
theorem entered_ok {φ : Pm} {args args' : List Value} (h : LR φ args args') (n : Nat) : FrR φ (entered args n) { tmps := (⟨args'⟩ : Array Value) ++ Array.replicate (n - (⟨args'⟩ : Array Value).size) undef, defers := [] } := by
  refine ⟨?_, fun t v e => ?_, rfl⟩
  · simp [entered, h.1]
  · simp only [entered, enterT_get, Nat.zero_le, true_and, Nat.zero_add, Nat.sub_zero, Tr.get_leaf] at e
    split at e
    · rename_i ht
      obtain ⟨v', h1, h2⟩ := h.get e
      have ht' : t < args'.length := by rw [← h.1]; exact ht
      have : (Act.eval { tmps := (⟨args'⟩ : Array Value) ++ Array.replicate (n - (⟨args'⟩ : Array Value).size) undef, defers := [] } (.tmp t)) = v' := by
        simp only [Act.eval, Array.getD_eq_getD_getElem?]
        rw [Array.getElem?_append_left (by simpa using ht')]
        simp [h1]
      rw [this]; exact h2
    · cases e

def evCall (P : Program) (tab : Tab) (N : Nat) : Nat → CallF
  | 0 => fun _ _ _ => none
  | n + 1 => fun k args st => match tab.find k with
    | some fn => match fn.body with
      | some c => match evC P (evCall P tab N n) N c (entered args fn.ntmps) st with
        | some (.nrm, f, st') => (match ares P st' f fn.results.toList with
          | some vs => some (ares1 vs, st')
          | none => none)
        | some (.ret, f, st') => (match ares P st' f fn.results.toList with
          | some vs => some (ares1 vs, st')
          | none => none)
        | _ => none
      | none => none
    | none => none
theorem evCall_ok {P : Program} (hm : P.follows .mixedOrders = true) {tab : Tab} (ht : tab.ok P) (N : Nat) : ∀ n, CallOk P (evCall P tab N n) := by
  intro n
  induction n with
  | zero => intro k args st v st' h; cases h
  | succ n ih =>
    intro k args st v st' h w0 φ w args' H hl
    simp only [evCall] at h
    split at h
    · rename_i fn hfn
      obtain ⟨hf, henter⟩ := ht _ _ hfn
      refine ⟨fun w => henter _ w, ?_⟩
      split at h
      · rename_i c hc
        refine calls_of_wp hf hc ?_
        have fin : ∀ (f : Fr) (st1 : St) (e : Ex), (e = .nrm ∨ e = .ret) → (match ares P st1 f fn.results.toList with | some vs => some (ares1 vs, st1) | none => none) = some (v, st') →
            Ends w0 st φ e f st1 (bodyPost P fn fun e w' => ∃ v' φ', e = .returned v' ∧ HR w0 φ' st' w' ∧ Kept st φ st' φ' ∧ VR φ' v v') := by
          intro f st1 e he hr φ1 a1 w1 H1 K1 F1
          split at hr
          · rename_i vs hvs
            cases hr
            obtain ⟨vs', k1, k2⟩ := ares_ok H1 F1 _ _ hvs
            have := run_results k1
            rcases he with rfl | rfl <;> exact ⟨F1.defers, _, this, _, φ1, rfl, H1, K1, k2.ares1⟩
          · cases hr
        have body := evC_wp hm ih N w0 c
        split at h
        · rename_i f st1 h1
          exact body _ _ _ _ _ h1 φ _ w H (entered_ok hl _) _ (fin f st1 .nrm (.inl rfl) h)
        · rename_i f st1 h1
          exact body _ _ _ _ _ h1 φ _ w H (entered_ok hl _) _ (fin f st1 .ret (.inr rfl) h)
        · cases h
      · cases h
    · cases h

/-! ### closed calls -/
theorem HR.start (w : World) : HR w (fun _ => .none) ⟨.leaf, 0⟩ w :=
  ⟨⟨rfl, rfl, rfl, Nat.le_refl _, fun _ _ => rfl⟩, fun _ _ => rfl, fun b _ => Tr.get_leaf b, fun b ob h => (by rw [Tr.get_leaf] at h; cases h), fun _ _ _ _ _ _ _ _ _ _ _ h => (by cases h), fun _ _ _ _ _ _ h => (by cases h)⟩
def gives (P : Program) (tab : Tab) (N n k : Nat) (args : List Value) (v : Value) : Bool := match evCall P tab N n k args ⟨.leaf, 0⟩ with
  | some (u, _) => veq 8 u v
  | none => false
theorem run_rel {P : Program} (hm : P.follows .mixedOrders = true) {tab : Tab} (ht : tab.ok P) {N n k : Nat} {args args' : List Value} (hl : LR (fun _ => .none) args args') {v : Value} (hv : plainB 3 v = true) (h : gives P tab N n k args v = true) (w : World) :
    Calls P k ⟨args'⟩ w fun e w' => e = .returned v ∧ Below w.heap.size w w' := by
  unfold gives at h
  split at h
  · rename_i u st' hu
    refine Calls.mono (evCall_ok hm ht N n _ _ _ _ _ hu w _ w args' (HR.start w) hl).2 ?_
    rintro e w' ⟨v', φ', rfl, h1, h2, h3⟩
    rw [veq_eq h] at h3
    rw [plain_eq 3 v v' hv h3]
    exact ⟨rfl, h1.below⟩
  · cases h
theorem run_closed {P : Program} (hm : P.follows .mixedOrders = true) {tab : Tab} (ht : tab.ok P) {N n k : Nat} {args : List Value} (ha : args.all (plainB 3) = true) {v : Value} (hv : plainB 3 v = true) (h : gives P tab N n k args v = true) (w : World) :
    Calls P k ⟨args⟩ w fun e w' => e = .returned v ∧ Below w.heap.size w w' :=
  run_rel hm ht ⟨rfl, fun i x y hx hy => by
    rw [hx] at hy; cases hy
    exact plain_refl 3 _ (List.all_eq_true.1 ha _ (List.mem_of_getElem? hx))⟩ hv h w
/-- One text that stands for many. -/
theorem one_mark {m s : ByteArray} (h : isMark m = true) (hs : ∀ c ∈ farWords m, s.data.toList ≠ c) : LR (fun _ => .none) [.string m] [.string s] := LR.cons (.opq h hs) LR.nil
end Go.Ev
