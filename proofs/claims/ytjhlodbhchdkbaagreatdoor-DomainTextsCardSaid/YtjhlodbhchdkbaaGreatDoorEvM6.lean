/-
  A region whose order is drawn, run in one order.
-/
/-
  A region whose order is drawn, run in one order: any order ends as this one.
-/
/-
  A region whose order is drawn: the run in one order, and the theorem.
-/
import Derived.Test.YtjhlodbhchdkbaaGreatDoorEvM5
namespace Go.Ev
open Go Go.RowKit

/-! ### the run -/
def subB (m D : Nat) : Bool := Nat.beq (Nat.land m D) m
theorem subB_mem {m D : Nat} (h : subB m D = true) {j : Nat} (hj : Nat.testBit m j = true) : Nat.testBit D j = true := by
  have := Nat.eq_of_beq_eq_true h
  rw [← this] at hj
  have h2 : Nat.testBit (Nat.land m D) j = (Nat.testBit m j && Nat.testBit D j) := Nat.testBit_and m D j
  rw [h2] at hj
  simp only [Bool.and_eq_true] at hj
  exact hj.2
theorem subB_of {m D : Nat} (h : ∀ j, Nat.testBit m j = true → Nat.testBit D j = true) : subB m D = true := by
  have : Nat.land m D = m := by
    apply Nat.eq_of_testBit_eq
    intro j
    have h2 : Nat.testBit (Nat.land m D) j = (Nat.testBit m j && Nat.testBit D j) := Nat.testBit_and m D j
    rw [h2]
    cases hb : Nat.testBit m j with
    | false => rfl
    | true => simp [h j hb]
  unfold subB
  rw [this]
  exact Nat.beq_refl m

def dstOk (f : Fr) (o : Oper) : Bool := match o.dst with | some d => Nat.blt d f.size | none => true
def quiet (P : Program) (oo : OpO) (ops : List Oper) (f : Fr) (st : St) (o : Oper) : Option (Value × St) :=
  match awanted ops f o with
  | some false => some (undef, st)
  | some true => match cls o.op with
    | .eff => none
    | .any => match exec1 P oo f.E st o with
      | some (.val v) => some (v, st)
      | some (.new ob mk) => some (mk st.next, ⟨st.heap.put st.next (some ob), st.next + 1⟩)
      | _ => none
    | .read => match exec1 P oo f.E st o with
      | some (.val v) => some (v, st)
      | some (.new ob mk) => some (mk st.next, ⟨st.heap.put st.next (some ob), st.next + 1⟩)
      | _ => none
  | none => none
def try1 (P : Program) (oo : OpO) (ops : List Oper) (D : Nat) (f : Fr) (st : St) (x : It) : Option (Value × St) := if subB x.m D && dstOk f x.o then quiet P oo ops f st x.o else none
def pick (P : Program) (oo : OpO) (ops : List Oper) (D : Nat) (f : Fr) (st : St) : List It → Option (It × Value × St × List It)
  | [] => none
  | x :: rest => match try1 P oo ops D f st x with
    | some (v, st') => some (x, v, st', rest)
    | none => match pick P oo ops D f st rest with
      | some (y, v, st', r) => some (y, v, st', x :: r)
      | none => none
def noneOf (D : Nat) : List It → Bool
  | [] => true
  | x :: rest => !subB x.m D && noneOf D rest
def only (D : Nat) : List It → Option (It × List It)
  | [] => none
  | x :: rest => if subB x.m D then (if noneOf D rest then some (x, rest) else none) else match only D rest with
    | some (y, r) => some (y, x :: r)
    | none => none
def reread (P : Program) (oo : OpO) (ops : List Oper) (f : Fr) (st : St) (o : Oper) : Bool := match awanted ops f o with
  | some false => true
  | some true => match exec1 P oo f.E st o with
    | some (.val v) => (match o.dst with
      | some d => (match f.tmps.get d with | some u => veq 8 v u | none => false)
      | none => true)
    | _ => false
  | none => false
def memT (d : Tmp) : List Tmp → Bool
  | [] => false
  | t :: ts => Nat.beq d t || memT d ts
theorem memT_of {d : Tmp} : ∀ {l : List Tmp}, d ∈ l → memT d l = true
  | [], h => by cases h
  | t :: ts, h => by
    simp only [memT, Bool.or_eq_true]
    rcases List.mem_cons.1 h with rfl | h
    · exact .inl (Nat.beq_refl _)
    · exact .inr (memT_of h)
/-- All that it looks at is written ahead of it. -/
def stableB (x : It) (lk : List Tmp) : List It → Bool
  | [] => true
  | y :: ys => (match y.o.dst with | some d => !memT d lk || Nat.testBit x.m y.i | none => true) && stableB x lk ys
def Stable (all : Array Oper) (its : List It) (x : It) : Prop := ∀ t ∈ x.o.looksAt all, ∀ y ∈ its, y.o.dst = some t → Nat.testBit x.m y.i = true
theorem stableB_ok {all : Array Oper} {x : It} : ∀ {its : List It}, stableB x (x.o.looksAt all) its = true → Stable all its x
  | [], _, t, _, y, hy, _ => by cases hy
  | z :: its, h, t, ht, y, hy, hd => by
    simp only [stableB, Bool.and_eq_true] at h
    rcases List.mem_cons.1 hy with rfl | hy
    · have h1 := h.1
      rw [hd] at h1
      simp only [memT_of ht, Bool.not_true, Bool.false_or] at h1
      exact h1
    · exact stableB_ok h.2 t ht y hy hd
def recheck (P : Program) (oo : OpO) (all : Array Oper) (its : List It) (f : Fr) (st : St) (e : It) (D : Nat) : List It → Bool
  | [] => true
  | x :: rest => (match cls x.o.op with
    | .read => if Nat.testBit D x.i && !Nat.testBit e.m x.i then stableB x (x.o.looksAt all) its && reread P oo all.toList f st x.o else true
    | _ => true) && recheck P oo all its f st e D rest
def go (P : Program) (oo : OpO) (call : CallF) (all : Array Oper) (ops : List Oper) (its : List It) : Nat → Nat → Fr → St → List It → Option (Fr × St)
  | 0, _, _, _, _ => none
  | n + 1, D, f, st, rest => match pick P oo ops D f st rest with
    | some (x, v, st', r) => go P oo call all ops its n (Nat.lor D (2 ^ x.i)) (f.put x.o.dst v) st' r
    | none => match rest with
      | [] => some (f, st)
      | _ :: _ => match only D rest with
        | some (e, r) => match awanted ops f e.o with
          | some true => match evSole P oo call f st e.o with
            | some (v, st') => if recheck P oo all its (f.put e.o.dst v) st' e D its then go P oo call all ops its n (Nat.lor D (2 ^ e.i)) (f.put e.o.dst v) st' r else none
            | none => none
          | _ => none
        | none => none
def draw (P : Program) (oo : OpO) (call : CallF) (all : Array Oper) (f : Fr) (st : St) : Option (Fr × St) := match regOf all with
  | some its => go P oo call all all.toList its (all.size + all.size + 1) 0 f st its
  | none => none

theorem pick_ok {P : Program} {oo : OpO} {ops : List Oper} {D : Nat} {f : Fr} {st : St} : ∀ {rest : List It} {x : It} {v : Value} {st' : St} {r : List It}, pick P oo ops D f st rest = some (x, v, st', r) →
    List.Perm rest (x :: r) ∧ subB x.m D = true ∧ dstOk f x.o = true ∧ quiet P oo ops f st x.o = some (v, st')
  | [], _, _, _, _, h => by cases h
  | y :: rest, x, v, st', r, h => by
    simp only [pick] at h
    split at h
    · rename_i v' st'' ht
      cases h
      unfold try1 at ht
      split at ht
      · rename_i hc
        simp only [Bool.and_eq_true] at hc
        exact ⟨List.Perm.refl _, hc.1, hc.2, ht⟩
      · cases ht
    · split at h
      · rename_i z v' st'' r' hp
        cases h
        obtain ⟨h1, h2⟩ := pick_ok hp
        exact ⟨(List.Perm.cons y h1).trans (List.Perm.swap x y r'), h2⟩
      · cases h
theorem noneOf_ok {D : Nat} : ∀ {l : List It}, noneOf D l = true → ∀ x ∈ l, subB x.m D = false
  | [], _, x, hx => by cases hx
  | y :: l, h, x, hx => by
    simp only [noneOf, Bool.and_eq_true, Bool.not_eq_true'] at h
    rcases List.mem_cons.1 hx with rfl | hx
    · exact h.1
    · exact noneOf_ok h.2 x hx
theorem only_ok {D : Nat} : ∀ {rest : List It} {x : It} {r : List It}, only D rest = some (x, r) → List.Perm rest (x :: r) ∧ subB x.m D = true ∧ ∀ y ∈ r, subB y.m D = false
  | [], _, _, h => by cases h
  | y :: rest, x, r, h => by
    simp only [only] at h
    split at h
    · rename_i hs
      split at h
      · rename_i hn; cases h; exact ⟨List.Perm.refl _, hs, noneOf_ok hn⟩
      · cases h
    · rename_i hs
      split at h
      · rename_i z r' hp
        cases h
        obtain ⟨h1, h2, h3⟩ := only_ok hp
        refine ⟨(List.Perm.cons y h1).trans (List.Perm.swap x y r'), h2, fun w hw => ?_⟩
        rcases List.mem_cons.1 hw with rfl | hw
        · simpa using hs
        · exact h3 w hw
      · cases h
theorem recheck_ok {P : Program} {oo : OpO} {all : Array Oper} {its : List It} {f : Fr} {st : St} {e : It} {D : Nat} : ∀ {l : List It}, recheck P oo all its f st e D l = true → ∀ x ∈ l, cls x.o.op = .read → Nat.testBit D x.i = true → Nat.testBit e.m x.i = false → Stable all its x ∧ reread P oo all.toList f st x.o = true
  | [], _, x, hx => by cases hx
  | y :: l, h, x, hx => by
    simp only [recheck, Bool.and_eq_true] at h
    rcases List.mem_cons.1 hx with rfl | hx
    · intro hc hD he
      have := h.1
      rw [hc] at this
      simp only [hD, he, Bool.not_false, and_self, if_true, Bool.and_eq_true] at this
      exact ⟨stableB_ok this.1, this.2⟩
    · exact recheck_ok h.2 x hx
/-! ### what is told ahead, and not done yet -/
def Holds (f : Fr) (o : Oper) (v : Value) : Prop := ∀ d, o.dst = some d → d < f.size ∧ f.tmps.get d = some v
/-- fi: what the locals were when it was told. -/
inductive Pend (P : Program) (oo : OpO) (all : Array Oper) (st0 : St) (φ : Pm) (fi f : Fr) (st : St) (x : It) (b : Option Nat) : Prop
  | off (hw : awanted all.toList fi x.o = some false) (hv : Holds f x.o undef)
  | val (hw : awanted all.toList fi x.o = some true) (hc : cls x.o.op = .any) (v : Value)
      (he : ∀ s, exec1 P oo fi.E s x.o = some (.val v)) (hv : Holds f x.o v)
  | rd (hw : awanted all.toList fi x.o = some true) (hc : cls x.o.op = .read) (h : Tr Ob) (hh : ∀ b ob, h.get b = some ob → st.heap.get b = some ob) (v : Value)
      (he : ∀ n, exec1 P oo fi.E ⟨h, n⟩ x.o = some (.val v)) (hv : Holds f x.o v)
  | new (hw : awanted all.toList fi x.o = some true) (ob : Ob) (mk : Nat → Value) (bi : Nat) (hb : b = some bi)
      (he : ∀ s, exec1 P oo fi.E s x.o = some (.new ob mk)) (hv : Holds f x.o (mk bi)) (hn : φ bi = .none) (h0 : st0.next ≤ bi) (hg : st.heap.get bi = some ob)
theorem Pend.holds {P : Program} {oo : OpO} {all : Array Oper} {st0 : St} {φ : Pm} {fi f : Fr} {st : St} {x : It} {b : Option Nat} (h : Pend P oo all st0 φ fi f st x b) : ∃ v, Holds f x.o v := by
  cases h with
  | off hw hv => exact ⟨_, hv⟩
  | val hw hc v he hv => exact ⟨_, hv⟩
  | rd hw hc h hh v he hv => exact ⟨_, hv⟩
  | new hw ob mk bi hb he hv => exact ⟨_, hv⟩

/-- x is told, and not done. -/
def Wait (its : List It) (D : Nat) (listed : Array Bool) (x : It) : Prop := x ∈ its ∧ Nat.testBit D x.i = true ∧ listed.getD x.i false = false
structure RD (P : Program) (oo : OpO) (all : Array Oper) (its : List It) (w0 : W0) (st0 : St) (φ0 : Pm) (D : Nat) (f : Fr) (st : St) (rest : List It) (listed : Array Bool) (φ : Pm) (a : Act) (w : World) (bl : Nat → Option Nat) (fr : Nat → Fr) : Prop where
  ops : OpOk P w0 oo
  heap : HR w0 φ st w
  kept : Kept st0 φ0 st φ
  size : a.tmps.size = f.size
  defers : DsR φ f.defers a.defers
  restIn : ∀ x ∈ rest, x ∈ its
  restNd : (rest.map (·.i)).Nodup
  restNot : ∀ x ∈ rest, Nat.testBit D x.i = false
  restAll : ∀ j, j < all.size → Nat.testBit D j = true ∨ ∃ x ∈ rest, x.i = j
  dClosed : Closed all fun j => Nat.testBit D j = true
  lsize : listed.size = all.size
  lD : ∀ j, listed.getD j false = true → Nat.testBit D j = true
  lClosed : Closed all fun j => listed.getD j false = true
  frame : ∀ t v, (∀ x, Wait its D listed x → x.o.dst ≠ some t) → f.tmps.get t = some v → VR φ v (a.eval (.tmp t))
  pend : ∀ x, Wait its D listed x → Pend P oo all st0 φ (fr x.i) f st x (bl x.i)
  sees : ∀ x, Wait its D listed x → ∀ t ∈ x.o.looksAt all, ∀ v, (fr x.i).tmps.get t = some v →
    (∀ y, Wait its D listed y → y.o.dst = some t → Nat.testBit x.m y.i = true → f.tmps.get t = some v) ∧
    ((∀ y, Wait its D listed y → y.o.dst = some t → Nat.testBit x.m y.i = false) → VR φ v (a.eval (.tmp t)))
  stab : ∀ x, Wait its D listed x → Stable all its x → ∀ t ∈ x.o.looksAt all, f.tmps.get t = (fr x.i).tmps.get t
  blInj : ∀ i j b, bl i = some b → bl j = some b → i = j
  blLt : ∀ i b, bl i = some b → b < st.next

theorem awanted_ok2 {φ : Pm} {f : Fr} {a : Act} {ops : Array Oper} {o : Oper} (h : ∀ t ∈ o.looksAt ops, ∀ v, f.tmps.get t = some v → VR φ v (a.eval (.tmp t))) {b : Bool} (e : awanted ops.toList f o = some b) : Region.wanted o (yielded ops a.tmps) = b := by
  have e0 := e
  unfold awanted at e
  split at e
  · rename_i hg; cases e; simp [Region.wanted, hg]
  · rename_i j want hg
    split at e
    · rename_i oj ho
      rw [nth_eq] at ho
      have ho : ops[j]? = some oj := by simpa using ho
      split at e
      · rename_i t ht
        have hmem : t ∈ o.looksAt ops := by simp [Oper.looksAt, hg, ho, ht]
        have F : FrR φ ⟨(Tr.leaf).put t (f.tmps.get t), a.tmps.size, []⟩ { a with defers := [] } := ⟨rfl, fun t' v hv => (by
          rw [Tr.get_put_eq] at hv
          split at hv
          · rename_i ht'; subst ht'; exact h _ hmem v hv
          · rw [Tr.get_leaf] at hv; cases hv), .nil⟩
        refine awanted_ok F (ops := ops) (o := o) (a := { a with defers := [] }) ?_
        rw [← e0]
        unfold awanted
        simp only [hg, nth_eq]
        have ho' : ops.toList[j]? = some oj := by simpa using ho
        simp only [ho', ht, Tr.get_put_eq, if_true]
      · cases e
    · cases e
theorem awanted_congr {f g : Fr} {all : Array Oper} {o : Oper} (h : ∀ t ∈ o.looksAt all, f.tmps.get t = g.tmps.get t) : awanted all.toList f o = awanted all.toList g o := by
  unfold awanted
  cases hg : o.guard with
  | none => rfl
  | some p =>
    obtain ⟨j, want⟩ := p
    simp only [nth_eq]
    cases ho : all.toList[j]? with
    | none => rfl
    | some oj =>
      simp only
      cases ht : oj.dst with
      | none => rfl
      | some t =>
        simp only
        have ho' : all[j]? = some oj := by simpa using ho
        rw [h t (by simp [Oper.looksAt, hg, ho', ht])]
theorem looks_operand {all : Array Oper} {o : Oper} {t : Tmp} (h : Operand.tmp t ∈ o.op.operands) : t ∈ o.looksAt all :=
  List.mem_append_left _ (List.mem_filterMap.2 ⟨.tmp t, by simpa using h, rfl⟩)
theorem E_congr {f g : Fr} {all : Array Oper} {o : Oper} (h : ∀ t ∈ o.looksAt all, f.tmps.get t = g.tmps.get t) {x : Operand} (hx : x ∈ o.op.operands) : f.E x = g.E x := by
  cases x with
  | tmp t => exact h t (looks_operand hx)
  | _ => rfl
theorem ER_of {φ : Pm} {f : Fr} {a : Act} {all : Array Oper} {o : Oper} (h : ∀ t ∈ o.looksAt all, ∀ v, f.tmps.get t = some v → VR φ v (a.eval (.tmp t))) : ER' φ f.E a.eval o := by
  intro x hx v e
  cases x with
  | tmp t => exact h t (looks_operand hx) v e
  | const u =>
    simp only [Fr.E] at e
    split at e
    · rename_i hp; cases e; exact plain_refl 3 _ hp
    · cases e
  | global g => cases e
  | func k => cases e; exact .func rfl (fun i v v' a => by simp at a) rfl (fun i v v' a => by simp at a)
theorem out_wp {P : Program} {w0 : W0} {w : World} {φ : Pm} {st : St} {o : Oper} {a : Act} {u : Out} (hok : Out.ok P w0 φ st w (execOp a.eval o) u) {next : Act → World → Prop} {Q : Exit → Act → World → Prop}
    (hn : u.thn w0 φ st w fun v' w' => next (a.put o.dst v') w') : o.wp P a w next Q := by
  unfold Oper.wp
  cases u with
  | val v =>
    obtain ⟨v', w', h1, h2, h3⟩ := hok
    rw [h1]; exact hn v' w' h2 h3
  | new ob mk =>
    obtain ⟨ob', v', w', S, g, z, h1, h2, h3, h4, h5, h6⟩ := hok
    rw [h1]; exact hn ob' v' w' S g z h2 h3 h4 h5 h6
  | eff v st' =>
    obtain ⟨φ', w', h1, h2, h3⟩ := hok
    rcases h3 with ⟨v', h3, h4⟩ | ⟨h3, h4⟩
    · rw [h3]; exact hn φ' v' w' h1 h2 h4
    · rw [h3]; subst h4; exact hn φ' undef w' h1 h2 (VR.undef _)
theorem HR.part {w0 : W0} {w : World} {φ : Pm} {st : St} (H : HR w0 φ st w) {h : Tr Ob} (hh : ∀ b ob, h.get b = some ob → st.heap.get b = some ob) : HR w0 φ ⟨h, st.next⟩ w :=
  ⟨H.below, H.fresh, fun b hb => (by
    show h.get b = none
    cases e : h.get b with
    | none => rfl
    | some ob => have := hh b ob e; rw [H.absent b hb] at this; cases this),
    fun b ob hb hn => H.obj b ob (hh b ob hb) hn, H.inj, H.used, H.sym⟩
end Go.Ev

namespace Go.Ev
open Go Go.RowKit

variable {P : Program} {oo : OpO} {all : Array Oper} {its : List It} {w0 : W0} {st0 : St} {φ0 : Pm}

theorem Wait.not_look {D : Nat} {f : Fr} {st : St} {rest : List It} {listed : Array Bool} {φ : Pm} {a : Act} {w : World} {bl : Nat → Option Nat} {fr : Nat → Fr} (G : Good all its) (rd : RD P oo all its w0 st0 φ0 D f st rest listed φ a w bl fr)
    {x : It} (hx : x ∈ its) (hxD : Nat.testBit D x.i = false) (hp : ∀ e ∈ x.o.after, Region.binds .any e = true → listed.getD e.on false = true) : ∀ t ∈ x.o.looksAt all, ∀ v, f.tmps.get t = some v → VR φ v (a.eval (.tmp t)) := by
  intro t ht v hv
  refine rd.frame t v (fun y hy hd => ?_) hv
  rcases G.look x hx y hy.1 t hd ht with h1 | h1 | h1
  · have h2 := (G.ok x hx).mask _ rd.lClosed hp y.i h1
    rw [hy.2.2] at h2
    cases h2
  · have := hy.2.1; rw [h1, hxD] at this; cases this
  · have h2 := (G.ok y hy.1).mask _ rd.dClosed (fun e he hb => rd.dClosed _ _ (G.ok y hy.1).at' hy.2.1 e he hb) x.i h1
    rw [hxD] at h2; cases h2
/-- One that is ready sees what is. -/
theorem RD.ready_sees {D : Nat} {f : Fr} {st : St} {rest : List It} {listed : Array Bool} {φ : Pm} {a : Act} {w : World} {bl : Nat → Option Nat} {fr : Nat → Fr} (G : Good all its) (rd : RD P oo all its w0 st0 φ0 D f st rest listed φ a w bl fr)
    {x : It} (hw : Wait its D listed x) (hp : ∀ e ∈ x.o.after, Region.binds .any e = true → listed.getD e.on false = true) : ∀ t ∈ x.o.looksAt all, ∀ v, (fr x.i).tmps.get t = some v → VR φ v (a.eval (.tmp t)) := by
  intro t ht v hv
  refine (rd.sees x hw t ht v hv).2 fun y hy _ => ?_
  cases hb : Nat.testBit x.m y.i with
  | false => rfl
  | true =>
    have h2 := (G.ok x hw.1).mask _ rd.lClosed hp y.i hb
    rw [hy.2.2] at h2; cases h2

theorem nodup_inj : ∀ {l : List It}, (l.map (·.i)).Nodup → ∀ {x y : It}, x ∈ l → y ∈ l → x.i = y.i → x = y
  | [], _, _, _, hx, _, _ => by cases hx
  | z :: l, h, x, y, hx, hy, e => by
    simp only [List.map_cons, List.nodup_cons] at h
    rcases List.mem_cons.1 hx with hx1 | hx1
    · rcases List.mem_cons.1 hy with hy1 | hy1
      · rw [hx1, hy1]
      · exact (h.1 (List.mem_map.2 ⟨y, hy1, by rw [← e, hx1]⟩)).elim
    · rcases List.mem_cons.1 hy with hy1 | hy1
      · exact (h.1 (List.mem_map.2 ⟨x, hx1, by rw [e, hy1]⟩)).elim
      · exact nodup_inj h.2 hx1 hy1 e
theorem It.inj (G : Good all its) {x y : It} (hx : x ∈ its) (hy : y ∈ its) (h : x.i = y.i) : x = y := nodup_inj G.nd hx hy h

theorem getD_set_same {listed : Array Bool} {i : Nat} (h : i < listed.size) : (listed.setIfInBounds i true).getD i false = true := by simp [h]
theorem wait_set {D : Nat} {listed : Array Bool} {i : Nat} {y : It} (hi : i < listed.size) (h : Wait its D (listed.setIfInBounds i true) y) : Wait its D listed y ∧ y.i ≠ i := by
  obtain ⟨h1, h2, h3⟩ := h
  have hne : y.i ≠ i := fun e => by rw [e, getD_set_same hi] at h3; cases h3
  rw [getD_set_ne false (Ne.symm hne)] at h3
  exact ⟨⟨h1, h2, h3⟩, hne⟩

theorem closed_set {listed : Array Bool} {x : It} (hat : all[x.i]? = some x.o) (hp : ∀ e ∈ x.o.after, Region.binds .any e = true → listed.getD e.on false = true) (h : Closed all fun j => listed.getD j false = true) :
    Closed all fun j => (listed.setIfInBounds x.i true).getD j false = true := by
  intro j oj hj hl e he hb
  by_cases hij : j = x.i
  · subst hij
    rw [hat] at hj
    cases hj
    exact getD_set_true (hp e he hb)
  · rw [getD_set_ne false (Ne.symm hij)] at hl
    exact getD_set_true (h j oj hj hl e he hb)

/-- One is done that was told ahead. -/
theorem RD.done {D : Nat} {f : Fr} {st : St} {rest : List It} {listed : Array Bool} {φ : Pm} {a : Act} {w : World} {bl : Nat → Option Nat} {fr : Nat → Fr} (G : Good all its) (rd : RD P oo all its w0 st0 φ0 D f st rest listed φ a w bl fr)
    {x : It} (hwx : Wait its D listed x) (hp : ∀ e ∈ x.o.after, Region.binds .any e = true → listed.getD e.on false = true)
    {φ' : Pm} {w' : World} {v v' : Value} (hH : HR w0 φ' st w') (hK : Kept st0 φ0 st φ') (hle : Le φ φ') (hv : Holds f x.o v) (hvr : VR φ' v v')
    (hpend : ∀ y, Wait its D listed y → y.i ≠ x.i → Pend P oo all st0 φ' (fr y.i) f st y (bl y.i)) :
    RD P oo all its w0 st0 φ0 D f st rest (listed.setIfInBounds x.i true) φ' (a.put x.o.dst v') w' bl fr := by
  obtain ⟨hx, hD, hxl⟩ := hwx
  have hwx : Wait its D listed x := ⟨hx, hD, hxl⟩
  have hat := (G.ok x hx).at'
  have hlt : x.i < listed.size := by rw [rd.lsize]; exact (Array.getElem?_eq_some_iff.1 hat).1
  have back : ∀ y, Wait its D listed y → y.i ≠ x.i → Wait its D (listed.setIfInBounds x.i true) y := fun y hy hne => ⟨hy.1, hy.2.1, by rw [getD_set_ne false (Ne.symm hne)]; exact hy.2.2⟩
  refine ⟨rd.ops, hH, hK, ?_, ?_, rd.restIn, rd.restNd, rd.restNot, rd.restAll, rd.dClosed, by simpa using rd.lsize, fun j hj => ?_, closed_set hat hp rd.lClosed, fun t u hn hu => ?_, fun y hy => ?_, fun z hz t ht u hu => ⟨fun y hy hd hb => ?_, fun hno => ?_⟩, fun z hz hs t ht => ?_, rd.blInj, rd.blLt⟩
  · rw [← rd.size]; cases x.o.dst <;> simp [Act.put]
  · have := rd.defers.mono hle; cases x.o.dst <;> exact this
  · by_cases e : j = x.i
    · rw [e]; exact hD
    · rw [getD_set_ne false (Ne.symm e)] at hj; exact rd.lD j hj
  · rw [eval_put]
    by_cases e : x.o.dst = some t
    · obtain ⟨h1, h2⟩ := hv t e
      rw [if_pos ⟨e, by rw [rd.size]; exact h1⟩]
      rw [h2] at hu; cases hu
      exact hvr
    · rw [if_neg (fun h => e h.1)]
      refine (rd.frame t u (fun y hy hd => ?_) hu).mono hle
      by_cases e2 : y.i = x.i
      · exact e (by rw [← It.inj G hy.1 hx e2]; exact hd)
      · exact hn y (back y hy e2) hd
  · obtain ⟨h1, h2⟩ := wait_set hlt hy
    exact hpend y h1 h2
  · obtain ⟨hz1, hz2⟩ := wait_set hlt hz
    obtain ⟨hy1, hy2⟩ := wait_set hlt hy
    exact (rd.sees z hz1 t ht u hu).1 y hy1 hd hb
  · obtain ⟨hz1, hz2⟩ := wait_set hlt hz
    obtain ⟨s1, s2⟩ := rd.sees z hz1 t ht u hu
    rw [eval_put]
    by_cases e : x.o.dst = some t
    · obtain ⟨h1, h2⟩ := hv t e
      rw [if_pos ⟨e, by rw [rd.size]; exact h1⟩]
      rcases G.look z hz1.1 x hx t e ht with h3 | h3 | h3
      · have := s1 x hwx e h3
        rw [h2] at this; cases this
        exact hvr
      · exact absurd h3.symm hz2
      · have h4 := (G.ok x hx).mask _ rd.lClosed hp z.i h3
        rw [hz1.2.2] at h4; cases h4
    · rw [if_neg (fun h => e h.1)]
      refine (s2 fun y hy hd => ?_).mono hle
      by_cases e2 : y.i = x.i
      · exact absurd (by rw [← It.inj G hy.1 hx e2]; exact hd) e
      · exact hno y (back y hy e2) hd
  · exact rd.stab z (wait_set hlt hz).1 hs t ht

/-- The blocks that wait lie nowhere yet. -/
theorem Pend.mono {fi f : Fr} {st : St} {φ φ' : Pm} {x : It} {b : Option Nat} (h : Pend P oo all st0 φ fi f st x b) (hn : ∀ bi, b = some bi → φ bi = .none → φ' bi = .none) : Pend P oo all st0 φ' fi f st x b := by
  cases h with
  | off hw hv => exact .off hw hv
  | val hw hc v he hv => exact .val hw hc v he hv
  | rd hw hc h hh v he hv => exact .rd hw hc h hh v he hv
  | new hw ob mk bi hb he hv hn' h0 hg => exact .new hw ob mk bi hb he hv (hn bi hb hn') h0 hg

theorem RD.step {D : Nat} {f : Fr} {st : St} {rest : List It} {listed : Array Bool} {φ : Pm} {a : Act} {w : World} {bl : Nat → Option Nat} {fr : Nat → Fr} (G : Good all its) (rd : RD P oo all its w0 st0 φ0 D f st rest listed φ a w bl fr)
    {x : It} (hx : x ∈ its) (hD : Nat.testBit D x.i = true) (hr : x.i ∈ Region.ready .any all listed) {Q : Exit → Act → World → Prop} {K : Act → World → Prop}
    (hK : ∀ φ' a' w', RD P oo all its w0 st0 φ0 D f st rest (listed.setIfInBounds x.i true) φ' a' w' bl fr → K a' w') : wpOp P all Q x.i K a w := by
  obtain ⟨hun, o, ho, hp⟩ := mem_ready.1 hr
  have hat := (G.ok x hx).at'
  rw [hat] at ho
  cases ho
  have hlt : x.i < listed.size := by rw [rd.lsize]; exact (Array.getElem?_eq_some_iff.1 hat).1
  have hwait : Wait its D listed x := ⟨hx, hD, by simp [hlt] at hun ⊢; exact hun⟩
  have look := rd.ready_sees G hwait hp
  unfold wpOp
  simp only [hat]
  cases rd.pend x hwait with
  | off hw hv =>
    rw [awanted_ok2 look hw]
    exact hK φ _ w (rd.done G hwait hp rd.heap rd.kept (Le.refl _) hv (VR.undef _) fun y hy _ => rd.pend y hy)
  | val hw hc v he hv =>
    rw [awanted_ok2 look hw]
    refine .inl (out_wp (exec1_ok rd.ops rd.heap (ER_of look) (he st)) ?_)
    intro v' w' hs hvr
    exact hK φ _ w' (rd.done G hwait hp (rd.heap.same hs) rd.kept (Le.refl _) hv hvr fun y hy _ => rd.pend y hy)
  | rd hw hc h hh v he hv =>
    rw [awanted_ok2 look hw]
    refine .inl (out_wp (exec1_ok rd.ops (rd.heap.part hh) (ER_of look) (he st.next)) ?_)
    intro v' w' hs hvr
    exact hK φ _ w' (rd.done G hwait hp (rd.heap.same hs) rd.kept (Le.refl _) hv hvr fun y hy _ => rd.pend y hy)
  | new hw ob mk bi hb he hv hn h0 hg =>
    rw [awanted_ok2 look hw]
    refine .inl (out_wp (exec1_ok rd.ops rd.heap (ER_of look) (he st)) ?_)
    intro ob' v' w' S g z k1 k2 k3 k4 k5
    obtain ⟨m1, m2⟩ := k5 (φ.tell bi (.live w.heap.size 0 S g z)) bi (Le.tell hn) (Pm.tell_same _ _ _)
    refine hK _ _ w' (rd.done G hwait hp (rd.heap.real hn hg k1 k2 k3 k4 m1) ⟨rd.kept.next, rd.kept.le.trans (Le.tell hn), fun c hc' hcn => ?_⟩ (Le.tell hn) hv m2 fun y hy hne => ?_)
    · obtain ⟨q1, q2⟩ := rd.kept.none c hc' hcn
      exact ⟨by rw [Pm.tell_other _ _ _ _ (by omega)]; exact q1, q2⟩
    · refine (rd.pend y hy).mono fun bj hbj hnj => ?_
      rw [Pm.tell_other _ _ _ _ (fun e => hne (rd.blInj _ _ bi (by rw [hbj, e]) hb))]
      exact hnj

theorem testBit_set (D i j : Nat) : Nat.testBit (Nat.lor D (2 ^ i)) j = (Nat.testBit D j || decide (i = j)) := by rw [testBit_lor, Nat.testBit_two_pow]
theorem closed_bit {D : Nat} {x : It} (hat : all[x.i]? = some x.o) (hp : ∀ e ∈ x.o.after, Region.binds .any e = true → Nat.testBit D e.on = true) (h : Closed all fun j => Nat.testBit D j = true) :
    Closed all fun j => Nat.testBit (Nat.lor D (2 ^ x.i)) j = true := by
  intro j oj hj hl e he hb
  simp only [testBit_set, Bool.or_eq_true, decide_eq_true_eq] at hl ⊢
  rcases hl with hl | rfl
  · exact .inl (h j oj hj hl e he hb)
  · rw [hat] at hj
    cases hj
    exact .inl (hp e he hb)

/-- One more is told: what is left. -/
structure Left (all : Array Oper) (its : List It) (D : Nat) (rest : List It) : Prop where
  restIn : ∀ x ∈ rest, x ∈ its
  restNd : (rest.map (·.i)).Nodup
  restNot : ∀ x ∈ rest, Nat.testBit D x.i = false
  restAll : ∀ j, j < all.size → Nat.testBit D j = true ∨ ∃ x ∈ rest, x.i = j
theorem Left.less {D : Nat} {rest r : List It} {x : It} (h : Left all its D rest) (hp : List.Perm rest (x :: r)) : x ∈ its ∧ Nat.testBit D x.i = false ∧ Left all its (Nat.lor D (2 ^ x.i)) r := by
  have hxr : x ∈ rest := hp.mem_iff.2 (by simp)
  have hnd : ((x :: r).map (·.i)).Nodup := (hp.map _).nodup_iff.1 h.restNd
  simp only [List.map_cons, List.nodup_cons] at hnd
  refine ⟨h.restIn x hxr, h.restNot x hxr, fun y hy => h.restIn y (hp.mem_iff.2 (List.mem_cons_of_mem _ hy)), hnd.2, fun y hy => ?_, fun j hj => ?_⟩
  · have h1 := h.restNot y (hp.mem_iff.2 (List.mem_cons_of_mem _ hy))
    have h2 : ¬ x.i = y.i := fun e => hnd.1 (e ▸ List.mem_map.2 ⟨y, hy, rfl⟩)
    rw [testBit_set, h1]
    simp [h2]
  · rw [testBit_set]
    rcases h.restAll j hj with h1 | ⟨y, hy, rfl⟩
    · exact .inl (by simp [h1])
    · rcases List.mem_cons.1 (hp.mem_iff.1 hy) with rfl | hy
      · exact .inl (by simp)
      · exact .inr ⟨y, hy, rfl⟩
theorem RD.left {D : Nat} {f : Fr} {st : St} {rest : List It} {listed : Array Bool} {φ : Pm} {a : Act} {w : World} {bl : Nat → Option Nat} {fr : Nat → Fr} (rd : RD P oo all its w0 st0 φ0 D f st rest listed φ a w bl fr) : Left all its D rest :=
  ⟨rd.restIn, rd.restNd, rd.restNot, rd.restAll⟩
end Go.Ev

namespace Go.Ev
open Go Go.RowKit

variable {P : Program} {oo : OpO} {all : Array Oper} {its : List It} {w0 : W0} {st0 : St} {φ0 : Pm}

theorem put_other {f : Fr} {dst : Option Tmp} {v : Value} {t : Tmp} (h : dst ≠ some t) : (f.put dst v).tmps.get t = f.tmps.get t := by rw [Fr.get_put, if_neg (fun e => h e.1)]
theorem Holds.put {f : Fr} {o : Oper} {u : Value} (h : Holds f o u) {dst : Option Tmp} (hd : ∀ d, o.dst = some d → dst ≠ some d) (v : Value) : Holds (f.put dst v) o u := fun d e => by
  obtain ⟨h1, h2⟩ := h d e
  exact ⟨by rw [Fr.put_size]; exact h1, by rw [put_other (hd d e)]; exact h2⟩
theorem Holds.own {f : Fr} {o : Oper} {v : Value} (h : dstOk f o = true) : Holds (f.put o.dst v) o v := fun d e => by
  unfold dstOk at h
  rw [e] at h
  have hlt : d < f.size := Nat.le_of_ble_eq_true h
  exact ⟨by rw [Fr.put_size]; exact hlt, by rw [Fr.get_put, if_pos ⟨e, hlt⟩]⟩

/-- What is told has all told that comes ahead of it. -/
theorem told_ahead {D : Nat} (G : Good all its) (hc : Closed all fun j => Nat.testBit D j = true) {y : It} (hy : y ∈ its) (hyD : Nat.testBit D y.i = true) {j : Nat} (h : Nat.testBit y.m j = true) : Nat.testBit D j = true :=
  (G.ok y hy).mask _ hc (fun e he hb => hc _ _ (G.ok y hy).at' hyD e he hb) j h

/-- Another one is told, or done: those that wait go on waiting. -/
theorem Pend.put {fi f : Fr} {st st' : St} {φ : Pm} {x y : It} {b : Option Nat} (h : Pend P oo all st0 φ fi f st y b) (v : Value) (hd : ∀ d, y.o.dst = some d → x.o.dst ≠ some d)
    (hh : ∀ b ob, st.heap.get b = some ob → st'.heap.get b = some ob) : Pend P oo all st0 φ fi (f.put x.o.dst v) st' y b := by
  cases h with
  | off hw hv => exact .off hw (hv.put hd v)
  | val hw hc u he hv => exact .val hw hc u he (hv.put hd v)
  | rd hw hc h hh' u he hv => exact .rd hw hc h (fun b ob e => hh b ob (hh' b ob e)) u he (hv.put hd v)
  | new hw ob mk bi hb he hv hn h0 hg => exact .new hw ob mk bi hb he (hv.put hd v) hn h0 (hh _ _ hg)

theorem RD.take {D : Nat} {f : Fr} {st : St} {rest : List It} {listed : Array Bool} {φ : Pm} {a : Act} {w : World} {bl : Nat → Option Nat} {fr : Nat → Fr} (G : Good all its) (rd : RD P oo all its w0 st0 φ0 D f st rest listed φ a w bl fr)
    {x : It} {v : Value} {st' : St} {r : List It} (hp : pick P oo all.toList D f st rest = some (x, v, st', r)) : ∃ bl' fr', RD P oo all its w0 st0 φ0 (Nat.lor D (2 ^ x.i)) (f.put x.o.dst v) st' r listed φ a w bl' fr' := by
  obtain ⟨h1, h2, h3, h4⟩ := pick_ok hp
  obtain ⟨hx, hxD, L⟩ := rd.left.less h1
  have hat := (G.ok x hx).at'
  have hpD : ∀ e ∈ x.o.after, Region.binds .any e = true → Nat.testBit D e.on = true := fun e he hb => subB_mem h2 ((G.ok x hx).pred e he hb).2
  have noself : Nat.testBit x.m x.i = false := by
    cases hb : Nat.testBit x.m x.i with
    | false => rfl
    | true => have := subB_mem h2 hb; rw [hxD] at this; cases this
  have hxl : listed.getD x.i false = false := by
    cases e : listed.getD x.i false with
    | false => rfl
    | true => have := rd.lD _ e; rw [hxD] at this; cases this
  have wait : ∀ y, Wait its (Nat.lor D (2 ^ x.i)) listed y → y = x ∨ (Wait its D listed y ∧ y.i ≠ x.i) := fun y hy => by
    obtain ⟨m1, m2, m3⟩ := hy
    rw [testBit_set, Bool.or_eq_true, decide_eq_true_eq] at m2
    by_cases e : y.i = x.i
    · exact .inl (It.inj G m1 hx e)
    · rcases m2 with m2 | m2
      · exact .inr ⟨⟨m1, m2, m3⟩, e⟩
      · exact absurd m2.symm e
  have waitx : Wait its (Nat.lor D (2 ^ x.i)) listed x := ⟨hx, by rw [testBit_set]; simp, hxl⟩
  have waito : ∀ y, Wait its D listed y → Wait its (Nat.lor D (2 ^ x.i)) listed y := fun y hy => ⟨hy.1, by rw [testBit_set, hy.2.1]; rfl, hy.2.2⟩
  have hown : Holds (f.put x.o.dst v) x.o v := Holds.own h3
  have nott : ∀ y, Wait its D listed y → Nat.testBit y.m x.i = false := fun y hy => by
    cases hb : Nat.testBit y.m x.i with
    | false => rfl
    | true => have := told_ahead G rd.dClosed hy.1 hy.2.1 hb; rw [hxD] at this; cases this
  have others : ∀ y, Wait its D listed y → ∀ d, y.o.dst = some d → x.o.dst ≠ some d := fun y hy d hd hd' => by
      have := G.uniq x hx y hy.1 d hd' hd
      rw [this, hy.2.1] at hxD; cases hxD
  have frame : ∀ t u, (∀ y, Wait its (Nat.lor D (2 ^ x.i)) listed y → y.o.dst ≠ some t) → (f.put x.o.dst v).tmps.get t = some u → VR φ u (a.eval (.tmp t)) := fun t u hn hu => by
    rw [put_other (hn x waitx)] at hu
    exact rd.frame t u (fun y hy => hn y (waito y hy)) hu
  have defers : DsR φ (f.put x.o.dst v).defers a.defers := by rw [Fr.put_defers]; exact rd.defers
  have size : a.tmps.size = (f.put x.o.dst v).size := by rw [Fr.put_size]; exact rd.size
  have lD : ∀ j, listed.getD j false = true → Nat.testBit (Nat.lor D (2 ^ x.i)) j = true := fun j hj => by rw [testBit_set, rd.lD j hj]; rfl
  let fr' : Nat → Fr := fun i => if i = x.i then f else fr i
  have frx : fr' x.i = f := by simp [fr']
  have fro : ∀ y : It, y.i ≠ x.i → fr' y.i = fr y.i := fun y hne => by simp [fr', hne]
  have sees : ∀ z, Wait its (Nat.lor D (2 ^ x.i)) listed z → ∀ t ∈ z.o.looksAt all, ∀ u, (fr' z.i).tmps.get t = some u →
      (∀ y, Wait its (Nat.lor D (2 ^ x.i)) listed y → y.o.dst = some t → Nat.testBit z.m y.i = true → (f.put x.o.dst v).tmps.get t = some u) ∧
      ((∀ y, Wait its (Nat.lor D (2 ^ x.i)) listed y → y.o.dst = some t → Nat.testBit z.m y.i = false) → VR φ u (a.eval (.tmp t))) := by
    intro z hz t ht u hu
    rcases wait z hz with rfl | ⟨hz, hne⟩
    · rw [frx] at hu
      refine ⟨fun y hy hd hb => ?_, fun hno => rd.frame t u (fun y hy hd => ?_) hu⟩
      · rcases wait y hy with rfl | ⟨hy, hne⟩
        · rw [noself] at hb; cases hb
        · rw [put_other (others y hy t hd)]; exact hu
      · rcases G.look z hx y hy.1 t hd ht with h5 | h5 | h5
        · have := hno y (waito y hy) hd; rw [h5] at this; cases this
        · have := hy.2.1; rw [h5, hxD] at this; cases this
        · have := told_ahead G rd.dClosed hy.1 hy.2.1 h5; rw [hxD] at this; cases this
    · rw [fro z hne] at hu
      obtain ⟨s1, s2⟩ := rd.sees z hz t ht u hu
      have hnz := nott z hz
      refine ⟨fun y hy hd hb => ?_, fun hno => s2 fun y hy hd => hno y (waito y hy) hd⟩
      rcases wait y hy with rfl | ⟨hy, _⟩
      · rw [hnz] at hb; cases hb
      · rw [put_other (others y hy t hd)]; exact s1 y hy hd hb
  have stab : ∀ z, Wait its (Nat.lor D (2 ^ x.i)) listed z → Stable all its z → ∀ t ∈ z.o.looksAt all, (f.put x.o.dst v).tmps.get t = (fr' z.i).tmps.get t := by
    intro z hz hs t ht
    rcases wait z hz with rfl | ⟨hz, hne⟩
    · rw [frx]
      exact put_other fun e => by have := hs t ht z hx e; rw [noself] at this; cases this
    · have hnz := nott z hz
      rw [fro z hne, put_other fun e => by have := hs t ht x hx e; rw [hnz] at this; cases this]
      exact rd.stab z hz hs t ht
  have same : st' = st → Pend P oo all st0 φ f (f.put x.o.dst v) st x (bl x.i) → ∃ bl' fr', RD P oo all its w0 st0 φ0 (Nat.lor D (2 ^ x.i)) (f.put x.o.dst v) st' r listed φ a w bl' fr' := fun e hpx => by
    subst e
    refine ⟨bl, fr', rd.ops, rd.heap, rd.kept, size, defers, L.restIn, L.restNd, L.restNot, L.restAll, closed_bit hat hpD rd.dClosed, rd.lsize, lD, rd.lClosed, frame, fun y hy => ?_, sees, stab, rd.blInj, rd.blLt⟩
    rcases wait y hy with rfl | ⟨hy, hne⟩
    · rw [frx]; exact hpx
    · rw [fro y hne]; exact (rd.pend y hy).put v (others y hy) fun _ _ h => h
  have made : ∀ (ob : Ob) (mk : Nat → Value), (∀ s, exec1 P oo f.E s x.o = some (.new ob mk)) → awanted all.toList f x.o = some true → v = mk st.next → st' = ⟨st.heap.put st.next (some ob), st.next + 1⟩ →
      ∃ bl' fr', RD P oo all its w0 st0 φ0 (Nat.lor D (2 ^ x.i)) (f.put x.o.dst v) st' r listed φ a w bl' fr' := by
    intro ob mk he hw hvm hst
    subst hst
    subst hvm
    have hown' := hown
    have hab := rd.heap.absent st.next (Nat.le_refl _)
    have hh : ∀ b ob', st.heap.get b = some ob' → (st.heap.put st.next (some ob)).get b = some ob' := fun b ob' hb => by
      rw [Tr.get_put_eq, if_neg (fun e => by subst e; rw [hab] at hb; cases hb)]; exact hb
    refine ⟨fun i => if i = x.i then some st.next else bl i, fr', rd.ops, rd.heap.virt ob, rd.kept.trans ⟨Nat.le_succ _, Le.refl _, fun b hb hn => ⟨hn, ?_⟩⟩, size, defers, L.restIn, L.restNd, L.restNot, L.restAll, closed_bit hat hpD rd.dClosed, rd.lsize, lD, rd.lClosed, frame, fun y hy => ?_, sees, stab, fun i j b hi hj => ?_, fun i b hi => ?_⟩
    · show (st.heap.put st.next (some ob)).get b = _
      rw [Tr.get_put_eq, if_neg (by omega)]
    · rcases wait y hy with rfl | ⟨hy, hne⟩
      · rw [frx]
        refine .new hw ob mk st.next (by simp) he hown' (rd.heap.fresh _ (Nat.le_refl _)) rd.kept.next ?_
        show (st.heap.put st.next (some ob)).get st.next = _
        rw [Tr.get_put_eq, if_pos rfl]
      · simp only [hne, if_false]
        rw [fro y hne]
        exact (rd.pend y hy).put _ (others y hy) hh
    · by_cases e1 : i = x.i
      · by_cases e2 : j = x.i
        · rw [e1, e2]
        · simp only [e1, if_true] at hi
          simp only [e2, if_false] at hj
          cases hi
          exact absurd (rd.blLt _ _ hj) (by omega)
      · simp only [e1, if_false] at hi
        by_cases e2 : j = x.i
        · simp only [e2, if_true] at hj
          cases hj
          exact absurd (rd.blLt _ _ hi) (by omega)
        · simp only [e2, if_false] at hj
          exact rd.blInj _ _ _ hi hj
    · show b < st.next + 1
      by_cases e1 : i = x.i
      · simp only [e1, if_true] at hi; cases hi; omega
      · simp only [e1, if_false] at hi; have := rd.blLt _ _ hi; omega
  unfold quiet at h4
  split at h4
  · rename_i hw
    cases h4
    exact same rfl (.off hw hown)
  · rename_i hw
    split at h4
    · cases h4
    · rename_i hc
      split at h4
      · rename_i u hu
        cases h4
        exact same rfl (.val hw hc _ (fun s => by rw [exec1_any hc]; exact hu) hown)
      · rename_i ob mk hu
        cases h4
        exact made ob mk (fun s => by rw [exec1_any hc]; exact hu) hw rfl rfl
      · cases h4
    · rename_i hc
      split at h4
      · rename_i u hu
        cases h4
        refine same rfl (.rd hw hc _ (fun _ _ h => h) _ (fun n => ?_) hown)
        exact (exec1_read hc).trans hu
      · rename_i ob mk hu
        cases h4
        exact made ob mk (exec1_new hc hu) hw rfl rfl
      · cases h4
  · cases h4

theorem RD.eff {call : CallF} (hcall : CallOk P oo w0 call) {D : Nat} {f : Fr} {st : St} {rest : List It} {listed : Array Bool} {φ : Pm} {a : Act} {w : World} {bl : Nat → Option Nat} {fr : Nat → Fr} (G : Good all its) (rd : RD P oo all its w0 st0 φ0 D f st rest listed φ a w bl fr)
    {e : It} {r : List It} (hp : List.Perm rest (e :: r)) (hw : awanted all.toList f e.o = some true) {v : Value} {st' : St} (hu : evSole P oo call f st e.o = some (v, st')) (hre : recheck P oo all its (f.put e.o.dst v) st' e D its = true)
    (hr : e.i ∈ Region.ready .any all listed) {Q : Exit → Act → World → Prop} {K : Act → World → Prop}
    (hK : ∀ φ' a' w' fr', RD P oo all its w0 st0 φ0 (Nat.lor D (2 ^ e.i)) (f.put e.o.dst v) st' r (listed.setIfInBounds e.i true) φ' a' w' bl fr' → K a' w') : wpOp P all Q e.i K a w := by
  obtain ⟨hx, hxD, L⟩ := rd.left.less hp
  obtain ⟨hun, o, ho, hpl⟩ := mem_ready.1 hr
  have hat := (G.ok e hx).at'
  rw [hat] at ho
  cases ho
  have hlt : e.i < listed.size := by rw [rd.lsize]; exact (Array.getElem?_eq_some_iff.1 hat).1
  have look := Wait.not_look G rd hx hxD hpl
  unfold wpOp
  simp only [hat]
  rw [awanted_ok2 look hw]
  refine .inl (evSole_wp hcall rd.heap (ER_of look) hu fun φ' v' w' h1 h2 h3 => ?_)
  have nott : ∀ y, Wait its D listed y → Nat.testBit y.m e.i = false := fun y hy => by
    cases hb : Nat.testBit y.m e.i with
    | false => rfl
    | true => have := told_ahead G rd.dClosed hy.1 hy.2.1 hb; rw [hxD] at this; cases this
  have notl : ∀ y, Wait its D listed y → Nat.testBit e.m y.i = false := fun y hy => by
    cases hb : Nat.testBit e.m y.i with
    | false => rfl
    | true =>
      have := (G.ok e hx).mask _ rd.lClosed hpl y.i hb
      rw [hy.2.2] at this; cases this
  have others : ∀ y, Wait its D listed y → ∀ d, y.o.dst = some d → e.o.dst ≠ some d := fun y hy d hd hd' => by
      have := G.uniq e hx y hy.1 d hd' hd
      rw [this, hy.2.1] at hxD; cases hxD
  have wait : ∀ y, Wait its (Nat.lor D (2 ^ e.i)) (listed.setIfInBounds e.i true) y → Wait its D listed y := fun y hy => by
    obtain ⟨m1, m2, m3⟩ := hy
    have hne : y.i ≠ e.i := fun e' => by rw [e', getD_set_same hlt] at m3; cases m3
    rw [getD_set_ne false (Ne.symm hne)] at m3
    rw [testBit_set, Bool.or_eq_true, decide_eq_true_eq] at m2
    rcases m2 with m2 | m2
    · exact ⟨m1, m2, m3⟩
    · exact absurd m2.symm hne
  have waito : ∀ y, Wait its D listed y → Wait its (Nat.lor D (2 ^ e.i)) (listed.setIfInBounds e.i true) y := fun y hy => by
    have hne : y.i ≠ e.i := fun e' => by have := hy.2.1; rw [e', hxD] at this; cases this
    exact ⟨hy.1, by rw [testBit_set, hy.2.1]; rfl, by rw [getD_set_ne false (Ne.symm hne)]; exact hy.2.2⟩
  have nolook : ∀ z, Wait its D listed z → ∀ t ∈ z.o.looksAt all, e.o.dst ≠ some t := fun z hz t ht hd => by
    rcases G.look z hz.1 e hx t hd ht with h5 | h5 | h5
    · rw [nott z hz] at h5; cases h5
    · have := hz.2.1; rw [← h5, hxD] at this; cases this
    · rw [notl z hz] at h5; cases h5
  have stab : ∀ z, Wait its (Nat.lor D (2 ^ e.i)) (listed.setIfInBounds e.i true) z → Stable all its z → ∀ t ∈ z.o.looksAt all, (f.put e.o.dst v).tmps.get t = (fr z.i).tmps.get t := fun z hz hs t ht => by
    rw [put_other (nolook z (wait z hz) t ht)]; exact rd.stab z (wait z hz) hs t ht
  classical
  let S : Nat → Prop := fun i => ∃ y, Wait its (Nat.lor D (2 ^ e.i)) (listed.setIfInBounds e.i true) y ∧ y.i = i ∧ Stable all its y ∧ cls y.o.op = .read ∧ ∃ h v, ∀ n, exec1 P oo (fr i).E ⟨h, n⟩ y.o = some (.val v)
  let fr' : Nat → Fr := fun i => if S i then f.put e.o.dst v else fr i
  have sameFr : ∀ z, Wait its (Nat.lor D (2 ^ e.i)) (listed.setIfInBounds e.i true) z → ∀ t ∈ z.o.looksAt all, (fr' z.i).tmps.get t = (fr z.i).tmps.get t := fun z hz t ht => by
    by_cases h : S z.i
    · obtain ⟨y, hy, hyi, hys, _⟩ := h
      have : y = z := It.inj G hy.1 hz.1 hyi
      subst this
      have e2 : fr' y.i = f.put e.o.dst v := if_pos ⟨y, hy, rfl, hys, by assumption⟩
      rw [e2]
      exact stab y hy hys t ht
    · have e2 : fr' z.i = fr z.i := if_neg h
      rw [e2]
  have anyFr : ∀ z, Wait its (Nat.lor D (2 ^ e.i)) (listed.setIfInBounds e.i true) z → cls z.o.op = .any → fr' z.i = fr z.i := fun z hz hc => if_neg fun ⟨y, hy, hyi, _, hyc, _⟩ => by
    have : y = z := It.inj G hy.1 hz.1 hyi
    subst this
    rw [hc] at hyc; cases hyc
  have newFr : ∀ z, Wait its (Nat.lor D (2 ^ e.i)) (listed.setIfInBounds e.i true) z → ∀ ob mk, (∀ s, exec1 P oo (fr z.i).E s z.o = some (.new ob mk)) → fr' z.i = fr z.i := fun z hz ob mk hn => if_neg fun ⟨y, hy, hyi, _, _, h, v, hv⟩ => by
    have : y = z := It.inj G hy.1 hz.1 hyi
    subst this
    have := hv 0
    rw [hn] at this; cases this
  have readFr : ∀ z, Wait its (Nat.lor D (2 ^ e.i)) (listed.setIfInBounds e.i true) z → Stable all its z → cls z.o.op = .read → (∃ h v, ∀ n, exec1 P oo (fr z.i).E ⟨h, n⟩ z.o = some (.val v)) → fr' z.i = f.put e.o.dst v := fun z hz hs hc hv => if_pos ⟨z, hz, rfl, hs, hc, hv⟩
  refine hK φ' _ w' fr' ⟨rd.ops, h1, rd.kept.trans h2, ?_, ?_, L.restIn, L.restNd, L.restNot, L.restAll, closed_bit hat (fun x hx' hb => rd.lD _ (hpl x hx' hb)) rd.dClosed, by simpa using rd.lsize, fun j hj => ?_, closed_set hat hpl rd.lClosed, fun t q hn hq => ?_, fun y hy => ?_, fun z hz t ht q hq => ⟨fun y hy hd hb => ?_, fun hno => ?_⟩, fun z hz hs t ht => by rw [sameFr z hz t ht]; exact stab z hz hs t ht, rd.blInj, fun i b hi => Nat.lt_of_lt_of_le (rd.blLt i b hi) h2.next⟩
  · rw [Fr.put_size, ← rd.size]; cases e.o.dst <;> simp [Act.put]
  · rw [Fr.put_defers]; have := rd.defers.mono h2.le; cases e.o.dst <;> exact this
  · rw [testBit_set]
    by_cases e' : j = e.i
    · simp [e']
    · rw [getD_set_ne false (Ne.symm e')] at hj; rw [rd.lD j hj]; rfl
  · rw [eval_put]
    rw [Fr.get_put] at hq
    rw [rd.size]
    split at hq
    · rename_i hc; rw [if_pos hc]; cases hq; exact h3
    · rename_i hc; rw [if_neg hc]
      exact (rd.frame t q (fun y hy => hn y (waito y hy)) hq).mono h2.le
  · have hy0 := wait y hy
    have o2 := others y hy0
    cases rd.pend y hy0 with
    | off hw hv => exact .off (by rw [awanted_congr (sameFr y hy)]; exact hw) (hv.put o2 _)
    | val hw hc q he hv => exact .val (by rw [anyFr y hy hc]; exact hw) hc q (by rw [anyFr y hy hc]; exact he) (hv.put o2 _)
    | rd hw hc h hh q he hv =>
      obtain ⟨hst, hrr⟩ := recheck_ok hre y hy0.1 hc hy0.2.1 (notl y hy0)
      have key := stab y hy hst
      have hw' : awanted all.toList (f.put e.o.dst v) y.o = some true := by rw [awanted_congr key]; exact hw
      unfold reread at hrr
      rw [hw'] at hrr
      simp only at hrr
      split at hrr
      · rename_i q2 hq2
        refine .rd (by rw [readFr y hy hst hc ⟨h, q, he⟩]; exact hw') hc st'.heap (fun _ _ h => h) q2 (fun n => by rw [readFr y hy hst hc ⟨h, q, he⟩, exec1_read (m := st'.next) hc]; exact hq2) fun d hd => ?_
        obtain ⟨k1, k2⟩ := hv.put (dst := e.o.dst) o2 v d hd
        refine ⟨k1, ?_⟩
        rw [hd] at hrr
        simp only [k2] at hrr
        rw [k2, veq_eq hrr]
      · cases hrr
    | new hw ob mk bi hb he hv hn h0 hg =>
      obtain ⟨n1, n2⟩ := h2.none bi (rd.blLt _ _ hb) hn
      exact .new (by rw [newFr y hy ob mk he]; exact hw) ob mk bi hb (by rw [newFr y hy ob mk he]; exact he) (hv.put o2 _) n1 h0 (by rw [n2]; exact hg)
  · have hz0 := wait z hz
    have hy0 := wait y hy
    rw [put_other (others y hy0 t hd)]
    rw [sameFr z hz t ht] at hq
    exact (rd.sees z hz0 t ht q hq).1 y hy0 hd hb
  · have hz0 := wait z hz
    rw [eval_put, if_neg (fun h => nolook z hz0 t ht h.1)]
    rw [sameFr z hz t ht] at hq
    exact ((rd.sees z hz0 t ht q hq).2 fun y hy hd => hno y (waito y hy) hd).mono h2.le
end Go.Ev

