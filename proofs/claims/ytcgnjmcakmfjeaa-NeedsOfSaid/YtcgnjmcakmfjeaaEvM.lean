/-
  Which operations don't look at the blocks, which only read them; and when two values are the same.
-/
import Derived.Test.YtcgnjmcakmfjeaaEvL
namespace Go.Ev
open Go Go.RowKit

/-- any: gives the same in every state · read: looks at the blocks alone · eff: others. -/
inductive Cls where
  | any
  | read
  | eff
def cls : Op → Cls
  | .move _ | .assign _ | .pick .. | .alloc _ | .box .. | .build .. | .buildSlice .. | .nilCheck _ | .makeInterface .. | .makeFunc .. | .makeMap .. | .makeSlice ..
  | .fieldAddr .. | .field .. | .indexAddr .. | .index .. | .range .. | .typeAssert .. | .extract .. | .unOp .. | .convert .. => .any
  | .load .. | .binOp .. | .slice .. | .lookup .. => .read
  | .call c => match c.callee with
    | .builtin .len => .read
    | .builtin .max | .builtin .min => .any
    | _ => .eff
  | _ => .eff

theorem exec1_any {P : Program} {E : Operand → Option Value} {st st' : St} {o : Oper} (h : cls o.op = .any) : exec1 P E st o = exec1 P E st' o := by
  obtain ⟨dst, op, type, pos, after, guard⟩ := o
  cases op
  case call c =>
    obtain ⟨callee, args, argTypes⟩ := c
    cases callee with
    | builtin b =>
      cases b <;> first | (exfalso; simp [cls] at h; done) | rfl
    | value f => simp [cls] at h
    | invoke r m => simp [cls] at h
  case makeMap t r => cases r <;> rfl
  all_goals first | (exfalso; simp [cls] at h; done) | rfl
theorem aload_n (P : Program) (h : Tr Ob) (n m : Nat) (t : TypeId) (v : Value) : aload P ⟨h, n⟩ t v = aload P ⟨h, m⟩ t v := by unfold aload aloadCells; rfl
theorem aeq_n (P : Program) (h : Tr Ob) (n m : Nat) (t : TypeId) (v u : Value) : aeq P ⟨h, n⟩ t v u = aeq P ⟨h, m⟩ t v u := by unfold aeq; rfl
theorem acmp_n (P : Program) (h : Tr Ob) (n m : Nat) (op : BinOp) (t : TypeId) (v u : Value) : acmp P ⟨h, n⟩ op t v u = acmp P ⟨h, m⟩ op t v u := by unfold acmp; simp only [aeq_n P h n m]
theorem aslice_n (P : Program) (h : Tr Ob) (n m : Nat) (t : TypeId) (v : Value) (lo hi : Option Value) : aslice P ⟨h, n⟩ t v lo hi = aslice P ⟨h, m⟩ t v lo hi := by unfold aslice; rfl
theorem alookup_n (P : Program) (h : Tr Ob) (n m : Nat) (t : TypeId) (v k : Value) (ok : Bool) : alookup P ⟨h, n⟩ t v k ok = alookup P ⟨h, m⟩ t v k ok := by unfold alookup aentries; rfl
theorem alen_n (P : Program) (h : Tr Ob) (n m : Nat) (t : TypeId) (v : Value) : alen ⟨h, n⟩ P t v = alen ⟨h, m⟩ P t v := by unfold alen; rfl
theorem exec1_read {P : Program} {E : Operand → Option Value} {h : Tr Ob} {n m : Nat} {o : Oper} (hc : cls o.op = .read) : exec1 P E ⟨h, n⟩ o = exec1 P E ⟨h, m⟩ o := by
  obtain ⟨dst, op, type, pos, after, guard⟩ := o
  cases op
  case call c =>
    obtain ⟨callee, args, argTypes⟩ := c
    cases callee with
    | builtin b =>
      cases b <;> first | (exfalso; simp [cls] at hc; done) | skip
      simp only [exec1, alen_n P h n m]
      obtain ⟨l1⟩ := args
      obtain ⟨l2⟩ := argTypes
      rcases l2 with _ | ⟨t, _ | ⟨t2, l2⟩⟩ <;> rcases l1 with _ | ⟨x, _ | ⟨x2, l1⟩⟩ <;> rfl
    | value f => simp [cls] at hc
    | invoke r m => simp [cls] at hc
  case load t a => simp only [exec1, aload_n P h n m]
  case binOp op t x y c => simp only [exec1, acmp_n P h n m]
  case slice t x lo hi mx => cases mx <;> simp only [exec1, aslice_n P h n m]
  case lookup t m' k ok => simp only [exec1, alookup_n P h n m]
  all_goals (exfalso; simp [cls] at hc; done)

/-! ### the same value -/
def addrEq (a b : Addr) : Bool := Nat.beq a.block b.block && Nat.beq a.off b.off && (match a.spot, b.spot with | none, none => true | _, _ => false)
theorem addr_eq {a b : Addr} (h : addrEq a b = true) : a = b := by
  obtain ⟨x, y, z⟩ := a
  obtain ⟨x', y', z'⟩ := b
  simp only [addrEq, Bool.and_eq_true] at h
  obtain ⟨⟨h1, h2⟩, h3⟩ := h
  have h1 := Nat.eq_of_beq_eq_true h1
  have h2 := Nat.eq_of_beq_eq_true h2
  subst h1; subst h2
  cases z <;> cases z' <;> first | rfl | simp at h3
def oaddrEq : Option Addr → Option Addr → Bool
  | none, none => true
  | some a, some b => addrEq a b
  | _, _ => false
theorem oaddr_eq {a b : Option Addr} (h : oaddrEq a b = true) : a = b := by
  cases a <;> cases b <;> first | rfl | (simp [oaddrEq] at h; done) | exact congrArg some (addr_eq h)
def onatEq : Option Nat → Option Nat → Bool
  | none, none => true
  | some a, some b => Nat.beq a b
  | _, _ => false
theorem onat_eq {a b : Option Nat} (h : onatEq a b = true) : a = b := by
  cases a <;> cases b <;> first | rfl | (simp [onatEq] at h; done) | exact congrArg some (Nat.eq_of_beq_eq_true h)

def listEq (f : Value → Value → Bool) : List Value → List Value → Bool
  | [], [] => true
  | x :: xs, y :: ys => f x y && listEq f xs ys
  | _, _ => false
theorem list_eq {f : Value → Value → Bool} (hf : ∀ v v', f v v' = true → v = v') : ∀ {xs ys : List Value}, listEq f xs ys = true → xs = ys
  | [], [], _ => rfl
  | [], _ :: _, h => by simp [listEq] at h
  | _ :: _, [], h => by simp [listEq] at h
  | x :: xs, y :: ys, h => by
    simp only [listEq, Bool.and_eq_true] at h
    rw [hf _ _ h.1, list_eq hf h.2]

def veq : Nat → Value → Value → Bool
  | 0, _, _ => false
  | f + 1, v, v' => match v with
    | .bool a => (match v' with | .bool b => decide (a = b) | _ => false)
    | .int k n => (match v' with | .int k' n' => decide (k = k') && decide (n = n') | _ => false)
    | .string s => (match v' with | .string s' => natsEq s.data.toList s'.data.toList | _ => false)
    | .pointer a => (match v' with | .pointer b => oaddrEq a b | _ => false)
    | .slice a l c => (match v' with | .slice a' l' c' => oaddrEq a a' && Nat.beq l l' && Nat.beq c c' | _ => false)
    | .map r => (match v' with | .map r' => onatEq r r' | _ => false)
    | .nilFunc => (match v' with | .nilFunc => true | _ => false)
    | .nilIface => (match v' with | .nilIface => true | _ => false)
    | .func fn xs ys => (match v' with
      | .func fn' xs' ys' => (match fn, fn' with | .func k, .func k' => decide (k = k') | _, _ => false) && listEq (veq f) xs.toList xs'.toList && listEq (veq f) ys.toList ys'.toList
      | _ => false)
    | .iface t u => (match v' with | .iface t' u' => decide (t = t') && veq f u u' | _ => false)
    | .agg xs => (match v' with | .agg xs' => listEq (veq f) xs.toList xs'.toList | _ => false)
    | .tuple xs => (match v' with | .tuple xs' => listEq (veq f) xs.toList xs'.toList | _ => false)
    | _ => false

theorem veq_eq : ∀ {f : Nat} {v v' : Value}, veq f v v' = true → v = v' := by
  intro f
  induction f with
  | zero => intro v v' h; simp [veq] at h
  | succ f ih =>
    intro v v' h
    cases v <;> simp only [veq] at h <;> first | (cases h; done) | skip
    all_goals (split at h <;> first | (cases h; done) | skip)
    · rw [of_decide_eq_true h]
    · simp only [Bool.and_eq_true, decide_eq_true_eq] at h; rw [h.1, h.2]
    · rename_i s _ s'
      obtain ⟨⟨l⟩⟩ := s
      obtain ⟨⟨l'⟩⟩ := s'
      rw [show l = l' from nats_eq h]
    · rw [oaddr_eq h]
    · simp only [Bool.and_eq_true] at h; rw [oaddr_eq h.1.1, Nat.eq_of_beq_eq_true h.1.2, Nat.eq_of_beq_eq_true h.2]
    · rw [onat_eq h]
    · simp only [Bool.and_eq_true] at h
      obtain ⟨⟨h1, h2⟩, h3⟩ := h
      split at h1
      · rw [of_decide_eq_true h1, Array.ext' (list_eq (fun _ _ => ih) h2), Array.ext' (list_eq (fun _ _ => ih) h3)]
      · cases h1
    · rfl
    · simp only [Bool.and_eq_true, decide_eq_true_eq] at h; rw [h.1, ih h.2]
    · rfl
    · rw [Array.ext' (list_eq (fun _ _ => ih) h)]
    · rw [Array.ext' (list_eq (fun _ _ => ih) h)]
end Go.Ev
