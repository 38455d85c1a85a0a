/-
  Which operations don't look at the blocks, which only read them; and when two values are the same.
-/
import Derived.Test.YtnfmfofialoioaaGreatDoorEvL
namespace Go.Ev
open Go Go.RowKit

/-- any: gives the same in every state · read: looks at the blocks alone · eff: others. -/
inductive Cls where
  | any
  | read
  | eff
def cls : Op → Cls
  | .move _ | .assign _ | .pick .. | .alloc _ | .box .. | .build .. | .buildSlice .. | .nilCheck _ | .makeInterface .. | .makeFunc .. | .makeMap .. | .makeSlice ..
  | .fieldAddr .. | .field .. | .indexAddr .. | .index .. | .range .. | .typeAssert .. | .extract .. | .unOp .. => .any
  | .convert .. | .load .. | .binOp .. | .slice .. | .lookup .. => .read
  | .call c => match c.callee with
    | .builtin .len => .read
    | .builtin .max | .builtin .min => .any
    | _ => .eff
  | _ => .eff

theorem exec0_any {P : Program} {E : Operand → Option Value} {st st' : St} {o : Oper} (h : cls o.op = .any) : exec0 P E st o = exec0 P E st' o := by
  obtain ⟨dst, op, type, pos, after, guard⟩ := o
  cases op
  case call c =>
    obtain ⟨callee, args, argTypes⟩ := c
    cases callee with
    | builtin b =>
      cases b <;> first | (exfalso; simp [cls] at h; done) | rfl
    | value f => simp [cls] at h
    | invoke r m => simp [cls] at h
  case makeMap t r => cases r <;> rfl
  all_goals first | (exfalso; simp [cls] at h; done) | rfl
theorem aload_n (P : Program) (h : Tr Ob) (n m : Nat) (t : TypeId) (v : Value) : aload P ⟨h, n⟩ t v = aload P ⟨h, m⟩ t v := by unfold aload aloadCells; rfl
theorem aconv_n (P : Program) (h : Tr Ob) (n m : Nat) (a b : TypeId) (v : Value) : aconv P ⟨h, n⟩ a b v = aconv P ⟨h, m⟩ a b v := by unfold aconv; rfl
theorem aeq_n (P : Program) (h : Tr Ob) (n m : Nat) (t : TypeId) (v u : Value) : aeq P ⟨h, n⟩ t v u = aeq P ⟨h, m⟩ t v u := by unfold aeq; rfl
theorem acmp_n (P : Program) (h : Tr Ob) (n m : Nat) (op : BinOp) (t : TypeId) (v u : Value) : acmp P ⟨h, n⟩ op t v u = acmp P ⟨h, m⟩ op t v u := by unfold acmp; simp only [aeq_n P h n m]
theorem aslice_n (P : Program) (h : Tr Ob) (n m : Nat) (t : TypeId) (v : Value) (lo hi : Option Value) : aslice P ⟨h, n⟩ t v lo hi = aslice P ⟨h, m⟩ t v lo hi := by unfold aslice; rfl
theorem afindPtr_n (P : Program) (h : Tr Ob) (n m : Nat) (kt : TypeId) (k : Value) : ∀ (es : List MapEntry) (i : Nat), afindPtr P ⟨h, n⟩ kt k es i = afindPtr P ⟨h, m⟩ kt k es i
  | [], _ => rfl
  | e :: es, i => by simp only [afindPtr, aeq_n P h n m, afindPtr_n P h n m kt k es]
theorem afindK_n (P : Program) (h : Tr Ob) (n m : Nat) (b : Bool) (kt : TypeId) (k : Value) (es : List MapEntry) : afindK P ⟨h, n⟩ b kt k es = afindK P ⟨h, m⟩ b kt k es := by unfold afindK; simp only [afindPtr_n P h n m]
theorem alookup_n (P : Program) (h : Tr Ob) (n m : Nat) (t : TypeId) (v k : Value) (ok : Bool) : alookup P ⟨h, n⟩ t v k ok = alookup P ⟨h, m⟩ t v k ok := by unfold alookup aentries; simp only [afindK_n P h n m]
theorem alen_n (P : Program) (h : Tr Ob) (n m : Nat) (t : TypeId) (v : Value) : alen ⟨h, n⟩ P t v = alen ⟨h, m⟩ P t v := by unfold alen; rfl
theorem tv_new {x : Option Value} {ob : Ob} {mk : Nat → Value} (h : tv x = some (.new ob mk)) : False := by obtain ⟨v, _, e⟩ := tv_some h; cases e
/-- What reads the blocks, and makes one: it does so whatever they are. -/
theorem exec0_new {P : Program} {E : Operand → Option Value} {st : St} {o : Oper} (hc : cls o.op = .read) {ob : Ob} {mk : Nat → Value} (h : exec0 P E st o = some (.new ob mk)) (s : St) : exec0 P E s o = some (.new ob mk) := by
  obtain ⟨dst, op, type, pos, after, guard⟩ := o
  cases op
  case call c =>
    obtain ⟨callee, args, argTypes⟩ := c
    cases callee with
    | builtin b =>
      cases b <;> first | (exfalso; simp [cls] at hc; done) | skip
      obtain ⟨l1⟩ := args
      obtain ⟨l2⟩ := argTypes
      rcases l2 with _ | ⟨t, _ | ⟨t2, l2⟩⟩ <;> rcases l1 with _ | ⟨x, _ | ⟨x2, l1⟩⟩ <;> simp only [exec0] at h <;> first | (cases h; done) | (obtain ⟨v, _, h⟩ := b1_some h; exact (tv_new h).elim)
    | value f => simp [cls] at hc
    | invoke r m => simp [cls] at hc
  case load t a => simp only [exec0] at h; obtain ⟨v, _, h⟩ := b1_some h; exact (tv_new h).elim
  case binOp op t x y c => simp only [exec0] at h; obtain ⟨v, _, h⟩ := b1_some h; obtain ⟨v, _, h⟩ := b1_some h; exact (tv_new h).elim
  case slice t x lo hi mx =>
    cases mx <;> simp only [exec0] at h <;> first | (cases h; done) | skip
    obtain ⟨v, _, h⟩ := b1_some h
    split at h
    · exact (tv_new h).elim
    · cases h
  case lookup t m' k ok => simp only [exec0] at h; obtain ⟨v, _, h⟩ := b1_some h; obtain ⟨v, _, h⟩ := b1_some h; exact (tv_new h).elim
  case convert a b x =>
    simp only [exec0] at h ⊢
    cases hx : E x with
    | none => rw [hx] at h; cases h
    | some v =>
      rw [hx] at h
      simp only [b1] at h ⊢
      split at h
      · exact h
      · exact (tv_new h).elim
  all_goals (exfalso; simp [cls] at hc; done)
theorem exec0_read {P : Program} {E : Operand → Option Value} {h : Tr Ob} {n m : Nat} {o : Oper} (hc : cls o.op = .read) : exec0 P E ⟨h, n⟩ o = exec0 P E ⟨h, m⟩ o := by
  obtain ⟨dst, op, type, pos, after, guard⟩ := o
  cases op
  case call c =>
    obtain ⟨callee, args, argTypes⟩ := c
    cases callee with
    | builtin b =>
      cases b <;> first | (exfalso; simp [cls] at hc; done) | skip
      simp only [exec0, alen_n P h n m]
      obtain ⟨l1⟩ := args
      obtain ⟨l2⟩ := argTypes
      rcases l2 with _ | ⟨t, _ | ⟨t2, l2⟩⟩ <;> rcases l1 with _ | ⟨x, _ | ⟨x2, l1⟩⟩ <;> rfl
    | value f => simp [cls] at hc
    | invoke r m => simp [cls] at hc
  case load t a => simp only [exec0, aload_n P h n m]
  case convert a b x => simp only [exec0, aconv_n P h n m]
  case binOp op t x y c => simp only [exec0, acmp_n P h n m]
  case slice t x lo hi mx => cases mx <;> simp only [exec0, aslice_n P h n m]
  case lookup t m' k ok => simp only [exec0, alookup_n P h n m]
  all_goals (exfalso; simp [cls] at hc; done)

theorem exec1_any {P : Program} {oo : OpO} {E : Operand → Option Value} {st st' : St} {o : Oper} (h : cls o.op = .any) : exec1 P oo E st o = exec1 P oo E st' o := by
  unfold exec1
  rw [exec0_any (st := st) (st' := st') h]
theorem exec1_read {P : Program} {oo : OpO} {E : Operand → Option Value} {h : Tr Ob} {n m : Nat} {o : Oper} (hc : cls o.op = .read) : exec1 P oo E ⟨h, n⟩ o = exec1 P oo E ⟨h, m⟩ o := by
  unfold exec1
  rw [exec0_read (n := n) (m := m) hc]
theorem exec1_new {P : Program} {oo : OpO} {E : Operand → Option Value} {st : St} {o : Oper} (hc : cls o.op = .read) {ob : Ob} {mk : Nat → Value} (h : exec1 P oo E st o = some (.new ob mk)) (s : St) : exec1 P oo E s o = some (.new ob mk) := by
  unfold exec1 at h ⊢
  split at h
  · cases h
  · exact exec0_new hc h s

/-! ### the same value -/
def oaddrEq : Option Addr → Option Addr → Bool
  | none, none => true
  | some a, some b => addrEq a b
  | _, _ => false
theorem oaddr_eq {a b : Option Addr} (h : oaddrEq a b = true) : a = b := by
  cases a <;> cases b <;> first | rfl | (simp [oaddrEq] at h; done) | exact congrArg some (addr_eq h)
def onatEq : Option Nat → Option Nat → Bool
  | none, none => true
  | some a, some b => Nat.beq a b
  | _, _ => false
theorem onat_eq {a b : Option Nat} (h : onatEq a b = true) : a = b := by
  cases a <;> cases b <;> first | rfl | (simp [onatEq] at h; done) | exact congrArg some (Nat.eq_of_beq_eq_true h)

def listEq (f : Value → Value → Bool) : List Value → List Value → Bool
  | [], [] => true
  | x :: xs, y :: ys => f x y && listEq f xs ys
  | _, _ => false
theorem list_eq {f : Value → Value → Bool} (hf : ∀ v v', f v v' = true → v = v') : ∀ {xs ys : List Value}, listEq f xs ys = true → xs = ys
  | [], [], _ => rfl
  | [], _ :: _, h => by simp [listEq] at h
  | _ :: _, [], h => by simp [listEq] at h
  | x :: xs, y :: ys, h => by
    simp only [listEq, Bool.and_eq_true] at h
    rw [hf _ _ h.1, list_eq hf h.2]

def veq : Nat → Value → Value → Bool
  | 0, _, _ => false
  | f + 1, v, v' => match v with
    | .bool a => (match v' with | .bool b => decide (a = b) | _ => false)
    | .int k n => (match v' with | .int k' n' => decide (k = k') && decide (n = n') | _ => false)
    | .string s => (match v' with | .string s' => natsEq s.data.toList s'.data.toList | _ => false)
    | .pointer a => (match v' with | .pointer b => oaddrEq a b | _ => false)
    | .slice a l c => (match v' with | .slice a' l' c' => oaddrEq a a' && Nat.beq l l' && Nat.beq c c' | _ => false)
    | .map r => (match v' with | .map r' => onatEq r r' | _ => false)
    | .chan r => (match v' with | .chan r' => onatEq r r' | _ => false)
    | .nilFunc => (match v' with | .nilFunc => true | _ => false)
    | .nilIface => (match v' with | .nilIface => true | _ => false)
    | .func fn xs ys => (match v' with
      | .func fn' xs' ys' => (match fn, fn' with | .func k, .func k' => decide (k = k') | _, _ => false) && listEq (veq f) xs.toList xs'.toList && listEq (veq f) ys.toList ys'.toList
      | _ => false)
    | .iface t u => (match v' with | .iface t' u' => decide (t = t') && veq f u u' | _ => false)
    | .agg xs => (match v' with | .agg xs' => listEq (veq f) xs.toList xs'.toList | _ => false)
    | .tuple xs => (match v' with | .tuple xs' => listEq (veq f) xs.toList xs'.toList | _ => false)
    | _ => false

theorem veq_eq : ∀ {f : Nat} {v v' : Value}, veq f v v' = true → v = v' := by
  intro f
  induction f with
  | zero => intro v v' h; simp [veq] at h
  | succ f ih =>
    intro v v' h
    cases v <;> simp only [veq] at h <;> first | (cases h; done) | skip
    all_goals (split at h <;> first | (cases h; done) | skip)
    · rw [of_decide_eq_true h]
    · simp only [Bool.and_eq_true, decide_eq_true_eq] at h; rw [h.1, h.2]
    · rename_i s _ s'
      obtain ⟨⟨l⟩⟩ := s
      obtain ⟨⟨l'⟩⟩ := s'
      rw [show l = l' from nats_eq h]
    · rw [oaddr_eq h]
    · simp only [Bool.and_eq_true] at h; rw [oaddr_eq h.1.1, Nat.eq_of_beq_eq_true h.1.2, Nat.eq_of_beq_eq_true h.2]
    · rw [onat_eq h]
    · rw [onat_eq h]
    · simp only [Bool.and_eq_true] at h
      obtain ⟨⟨h1, h2⟩, h3⟩ := h
      split at h1
      · rw [of_decide_eq_true h1, Array.ext' (list_eq (fun _ _ => ih) h2), Array.ext' (list_eq (fun _ _ => ih) h3)]
      · cases h1
    · rfl
    · simp only [Bool.and_eq_true, decide_eq_true_eq] at h; rw [h.1, ih h.2]
    · rfl
    · rw [Array.ext' (list_eq (fun _ _ => ih) h)]
    · rw [Array.ext' (list_eq (fun _ _ => ih) h)]
end Go.Ev
