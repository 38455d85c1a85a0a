/-
  A region whose order is drawn, run in one order.
-/
import Derived.Test.YtnfmfofialoioaaGreatDoorEvN
namespace Go.Ev
open Go Go.RowKit

/-! ### the run -/
def subB (m D : Nat) : Bool := Nat.beq (Nat.land m D) m
theorem subB_mem {m D : Nat} (h : subB m D = true) {j : Nat} (hj : Nat.testBit m j = true) : Nat.testBit D j = true := by
  have := Nat.eq_of_beq_eq_true h
  rw [← this] at hj
  have h2 : Nat.testBit (Nat.land m D) j = (Nat.testBit m j && Nat.testBit D j) := Nat.testBit_and m D j
  rw [h2] at hj
  simp only [Bool.and_eq_true] at hj
  exact hj.2
theorem subB_of {m D : Nat} (h : ∀ j, Nat.testBit m j = true → Nat.testBit D j = true) : subB m D = true := by
  have : Nat.land m D = m := by
    apply Nat.eq_of_testBit_eq
    intro j
    have h2 : Nat.testBit (Nat.land m D) j = (Nat.testBit m j && Nat.testBit D j) := Nat.testBit_and m D j
    rw [h2]
    cases hb : Nat.testBit m j with
    | false => rfl
    | true => simp [h j hb]
  unfold subB
  rw [this]
  exact Nat.beq_refl m

def dstOk (f : Fr) (o : Oper) : Bool := match o.dst with | some d => Nat.blt d f.size | none => true
def quiet (P : Program) (oo : OpO) (ops : List Oper) (f : Fr) (st : St) (o : Oper) : Option (Value × St) :=
  match awanted ops f o with
  | some false => some (undef, st)
  | some true => match cls o.op with
    | .eff => none
    | .any => match exec1 P oo f.E st o with
      | some (.val v) => some (v, st)
      | some (.new ob mk) => some (mk st.next, ⟨st.heap.put st.next (some ob), st.next + 1⟩)
      | _ => none
    | .read => match exec1 P oo f.E st o with
      | some (.val v) => some (v, st)
      | some (.new ob mk) => some (mk st.next, ⟨st.heap.put st.next (some ob), st.next + 1⟩)
      | _ => none
  | none => none
def try1 (P : Program) (oo : OpO) (ops : List Oper) (D : Nat) (f : Fr) (st : St) (x : It) : Option (Value × St) := if subB x.m D && dstOk f x.o then quiet P oo ops f st x.o else none
def pick (P : Program) (oo : OpO) (ops : List Oper) (D : Nat) (f : Fr) (st : St) : List It → Option (It × Value × St × List It)
  | [] => none
  | x :: rest => match try1 P oo ops D f st x with
    | some (v, st') => some (x, v, st', rest)
    | none => match pick P oo ops D f st rest with
      | some (y, v, st', r) => some (y, v, st', x :: r)
      | none => none
def noneOf (D : Nat) : List It → Bool
  | [] => true
  | x :: rest => !subB x.m D && noneOf D rest
def only (D : Nat) : List It → Option (It × List It)
  | [] => none
  | x :: rest => if subB x.m D then (if noneOf D rest then some (x, rest) else none) else match only D rest with
    | some (y, r) => some (y, x :: r)
    | none => none
def reread (P : Program) (oo : OpO) (ops : List Oper) (f : Fr) (st : St) (o : Oper) : Bool := match awanted ops f o with
  | some false => true
  | some true => match exec1 P oo f.E st o with
    | some (.val v) => (match o.dst with
      | some d => (match f.tmps.get d with | some u => veq 8 v u | none => false)
      | none => true)
    | _ => false
  | none => false
def memT (d : Tmp) : List Tmp → Bool
  | [] => false
  | t :: ts => Nat.beq d t || memT d ts
theorem memT_of {d : Tmp} : ∀ {l : List Tmp}, d ∈ l → memT d l = true
  | [], h => by cases h
  | t :: ts, h => by
    simp only [memT, Bool.or_eq_true]
    rcases List.mem_cons.1 h with rfl | h
    · exact .inl (Nat.beq_refl _)
    · exact .inr (memT_of h)
/-- All that it looks at is written ahead of it. -/
def stableB (x : It) (lk : List Tmp) : List It → Bool
  | [] => true
  | y :: ys => (match y.o.dst with | some d => !memT d lk || Nat.testBit x.m y.i | none => true) && stableB x lk ys
def Stable (all : Array Oper) (its : List It) (x : It) : Prop := ∀ t ∈ x.o.looksAt all, ∀ y ∈ its, y.o.dst = some t → Nat.testBit x.m y.i = true
theorem stableB_ok {all : Array Oper} {x : It} : ∀ {its : List It}, stableB x (x.o.looksAt all) its = true → Stable all its x
  | [], _, t, _, y, hy, _ => by cases hy
  | z :: its, h, t, ht, y, hy, hd => by
    simp only [stableB, Bool.and_eq_true] at h
    rcases List.mem_cons.1 hy with rfl | hy
    · have h1 := h.1
      rw [hd] at h1
      simp only [memT_of ht, Bool.not_true, Bool.false_or] at h1
      exact h1
    · exact stableB_ok h.2 t ht y hy hd
def recheck (P : Program) (oo : OpO) (all : Array Oper) (its : List It) (f : Fr) (st : St) (e : It) (D : Nat) : List It → Bool
  | [] => true
  | x :: rest => (match cls x.o.op with
    | .read => if Nat.testBit D x.i && !Nat.testBit e.m x.i then stableB x (x.o.looksAt all) its && reread P oo all.toList f st x.o else true
    | _ => true) && recheck P oo all its f st e D rest
def go (P : Program) (oo : OpO) (call : CallF) (all : Array Oper) (ops : List Oper) (its : List It) : Nat → Nat → Fr → St → List It → Option (Fr × St)
  | 0, _, _, _, _ => none
  | n + 1, D, f, st, rest => match pick P oo ops D f st rest with
    | some (x, v, st', r) => go P oo call all ops its n (Nat.lor D (2 ^ x.i)) (f.put x.o.dst v) st' r
    | none => match rest with
      | [] => some (f, st)
      | _ :: _ => match only D rest with
        | some (e, r) => match awanted ops f e.o with
          | some true => match evGot P oo call f.E st e.o with
            | some u => match u.to st with
              | (v, st') => if recheck P oo all its (f.put e.o.dst v) st' e D its then go P oo call all ops its n (Nat.lor D (2 ^ e.i)) (f.put e.o.dst v) st' r else none
            | none => none
          | _ => none
        | none => none
def draw (P : Program) (oo : OpO) (call : CallF) (all : Array Oper) (f : Fr) (st : St) : Option (Fr × St) := match regOf all with
  | some its => go P oo call all all.toList its (all.size + all.size + 1) 0 f st its
  | none => none

theorem pick_ok {P : Program} {oo : OpO} {ops : List Oper} {D : Nat} {f : Fr} {st : St} : ∀ {rest : List It} {x : It} {v : Value} {st' : St} {r : List It}, pick P oo ops D f st rest = some (x, v, st', r) →
    List.Perm rest (x :: r) ∧ subB x.m D = true ∧ dstOk f x.o = true ∧ quiet P oo ops f st x.o = some (v, st')
  | [], _, _, _, _, h => by cases h
  | y :: rest, x, v, st', r, h => by
    simp only [pick] at h
    split at h
    · rename_i v' st'' ht
      cases h
      unfold try1 at ht
      split at ht
      · rename_i hc
        simp only [Bool.and_eq_true] at hc
        exact ⟨List.Perm.refl _, hc.1, hc.2, ht⟩
      · cases ht
    · split at h
      · rename_i z v' st'' r' hp
        cases h
        obtain ⟨h1, h2⟩ := pick_ok hp
        exact ⟨(List.Perm.cons y h1).trans (List.Perm.swap x y r'), h2⟩
      · cases h
theorem noneOf_ok {D : Nat} : ∀ {l : List It}, noneOf D l = true → ∀ x ∈ l, subB x.m D = false
  | [], _, x, hx => by cases hx
  | y :: l, h, x, hx => by
    simp only [noneOf, Bool.and_eq_true, Bool.not_eq_true'] at h
    rcases List.mem_cons.1 hx with rfl | hx
    · exact h.1
    · exact noneOf_ok h.2 x hx
theorem only_ok {D : Nat} : ∀ {rest : List It} {x : It} {r : List It}, only D rest = some (x, r) → List.Perm rest (x :: r) ∧ subB x.m D = true ∧ ∀ y ∈ r, subB y.m D = false
  | [], _, _, h => by cases h
  | y :: rest, x, r, h => by
    simp only [only] at h
    split at h
    · rename_i hs
      split at h
      · rename_i hn; cases h; exact ⟨List.Perm.refl _, hs, noneOf_ok hn⟩
      · cases h
    · rename_i hs
      split at h
      · rename_i z r' hp
        cases h
        obtain ⟨h1, h2, h3⟩ := only_ok hp
        refine ⟨(List.Perm.cons y h1).trans (List.Perm.swap x y r'), h2, fun w hw => ?_⟩
        rcases List.mem_cons.1 hw with rfl | hw
        · simpa using hs
        · exact h3 w hw
      · cases h
theorem recheck_ok {P : Program} {oo : OpO} {all : Array Oper} {its : List It} {f : Fr} {st : St} {e : It} {D : Nat} : ∀ {l : List It}, recheck P oo all its f st e D l = true → ∀ x ∈ l, cls x.o.op = .read → Nat.testBit D x.i = true → Nat.testBit e.m x.i = false → Stable all its x ∧ reread P oo all.toList f st x.o = true
  | [], _, x, hx => by cases hx
  | y :: l, h, x, hx => by
    simp only [recheck, Bool.and_eq_true] at h
    rcases List.mem_cons.1 hx with rfl | hx
    · intro hc hD he
      have := h.1
      rw [hc] at this
      simp only [hD, he, Bool.not_false, and_self, if_true, Bool.and_eq_true] at this
      exact ⟨stableB_ok this.1, this.2⟩
    · exact recheck_ok h.2 x hx
/-! ### what is told ahead, and not done yet -/
def Holds (f : Fr) (o : Oper) (v : Value) : Prop := ∀ d, o.dst = some d → d < f.size ∧ f.tmps.get d = some v
/-- fi: what the locals were when it was told. -/
inductive Pend (P : Program) (oo : OpO) (all : Array Oper) (st0 : St) (φ : Pm) (fi f : Fr) (st : St) (x : It) (b : Option Nat) : Prop
  | off (hw : awanted all.toList fi x.o = some false) (hv : Holds f x.o undef)
  | val (hw : awanted all.toList fi x.o = some true) (hc : cls x.o.op = .any) (v : Value)
      (he : ∀ s, exec1 P oo fi.E s x.o = some (.val v)) (hv : Holds f x.o v)
  | rd (hw : awanted all.toList fi x.o = some true) (hc : cls x.o.op = .read) (h : Tr Ob) (hh : ∀ b ob, h.get b = some ob → st.heap.get b = some ob) (v : Value)
      (he : ∀ n, exec1 P oo fi.E ⟨h, n⟩ x.o = some (.val v)) (hv : Holds f x.o v)
  | new (hw : awanted all.toList fi x.o = some true) (ob : Ob) (mk : Nat → Value) (bi : Nat) (hb : b = some bi)
      (he : ∀ s, exec1 P oo fi.E s x.o = some (.new ob mk)) (hv : Holds f x.o (mk bi)) (hn : φ bi = .none) (h0 : st0.next ≤ bi) (hg : st.heap.get bi = some ob)
theorem Pend.holds {P : Program} {oo : OpO} {all : Array Oper} {st0 : St} {φ : Pm} {fi f : Fr} {st : St} {x : It} {b : Option Nat} (h : Pend P oo all st0 φ fi f st x b) : ∃ v, Holds f x.o v := by
  cases h with
  | off hw hv => exact ⟨_, hv⟩
  | val hw hc v he hv => exact ⟨_, hv⟩
  | rd hw hc h hh v he hv => exact ⟨_, hv⟩
  | new hw ob mk bi hb he hv => exact ⟨_, hv⟩

/-- x is told, and not done. -/
def Wait (its : List It) (D : Nat) (listed : Array Bool) (x : It) : Prop := x ∈ its ∧ Nat.testBit D x.i = true ∧ listed.getD x.i false = false
structure RD (P : Program) (oo : OpO) (all : Array Oper) (its : List It) (w0 : W0) (st0 : St) (φ0 : Pm) (D : Nat) (f : Fr) (st : St) (rest : List It) (listed : Array Bool) (φ : Pm) (a : Act) (w : World) (bl : Nat → Option Nat) (fr : Nat → Fr) : Prop where
  ops : OpOk P w0 oo
  heap : HR w0 φ st w
  kept : Kept st0 φ0 st φ
  size : a.tmps.size = f.size
  defers : DsR φ f.defers a.defers
  restIn : ∀ x ∈ rest, x ∈ its
  restNd : (rest.map (·.i)).Nodup
  restNot : ∀ x ∈ rest, Nat.testBit D x.i = false
  restAll : ∀ j, j < all.size → Nat.testBit D j = true ∨ ∃ x ∈ rest, x.i = j
  dClosed : Closed all fun j => Nat.testBit D j = true
  lsize : listed.size = all.size
  lD : ∀ j, listed.getD j false = true → Nat.testBit D j = true
  lClosed : Closed all fun j => listed.getD j false = true
  frame : ∀ t v, (∀ x, Wait its D listed x → x.o.dst ≠ some t) → f.tmps.get t = some v → VR φ v (a.eval (.tmp t))
  pend : ∀ x, Wait its D listed x → Pend P oo all st0 φ (fr x.i) f st x (bl x.i)
  sees : ∀ x, Wait its D listed x → ∀ t ∈ x.o.looksAt all, ∀ v, (fr x.i).tmps.get t = some v →
    (∀ y, Wait its D listed y → y.o.dst = some t → Nat.testBit x.m y.i = true → f.tmps.get t = some v) ∧
    ((∀ y, Wait its D listed y → y.o.dst = some t → Nat.testBit x.m y.i = false) → VR φ v (a.eval (.tmp t)))
  stab : ∀ x, Wait its D listed x → Stable all its x → ∀ t ∈ x.o.looksAt all, f.tmps.get t = (fr x.i).tmps.get t
  blInj : ∀ i j b, bl i = some b → bl j = some b → i = j
  blLt : ∀ i b, bl i = some b → b < st.next

theorem awanted_ok2 {φ : Pm} {f : Fr} {a : Act} {ops : Array Oper} {o : Oper} (h : ∀ t ∈ o.looksAt ops, ∀ v, f.tmps.get t = some v → VR φ v (a.eval (.tmp t))) {b : Bool} (e : awanted ops.toList f o = some b) : Region.wanted o (yielded ops a.tmps) = b := by
  have e0 := e
  unfold awanted at e
  split at e
  · rename_i hg; cases e; simp [Region.wanted, hg]
  · rename_i j want hg
    split at e
    · rename_i oj ho
      rw [nth_eq] at ho
      have ho : ops[j]? = some oj := by simpa using ho
      split at e
      · rename_i t ht
        have hmem : t ∈ o.looksAt ops := by simp [Oper.looksAt, hg, ho, ht]
        have F : FrR φ ⟨(Tr.leaf).put t (f.tmps.get t), a.tmps.size, []⟩ { a with defers := [] } := ⟨rfl, fun t' v hv => (by
          rw [Tr.get_put_eq] at hv
          split at hv
          · rename_i ht'; subst ht'; exact h _ hmem v hv
          · rw [Tr.get_leaf] at hv; cases hv), .nil⟩
        refine awanted_ok F (ops := ops) (o := o) (a := { a with defers := [] }) ?_
        rw [← e0]
        unfold awanted
        simp only [hg, nth_eq]
        have ho' : ops.toList[j]? = some oj := by simpa using ho
        simp only [ho', ht, Tr.get_put_eq, if_true]
      · cases e
    · cases e
theorem awanted_congr {f g : Fr} {all : Array Oper} {o : Oper} (h : ∀ t ∈ o.looksAt all, f.tmps.get t = g.tmps.get t) : awanted all.toList f o = awanted all.toList g o := by
  unfold awanted
  cases hg : o.guard with
  | none => rfl
  | some p =>
    obtain ⟨j, want⟩ := p
    simp only [nth_eq]
    cases ho : all.toList[j]? with
    | none => rfl
    | some oj =>
      simp only
      cases ht : oj.dst with
      | none => rfl
      | some t =>
        simp only
        have ho' : all[j]? = some oj := by simpa using ho
        rw [h t (by simp [Oper.looksAt, hg, ho', ht])]
theorem looks_operand {all : Array Oper} {o : Oper} {t : Tmp} (h : Operand.tmp t ∈ o.op.operands) : t ∈ o.looksAt all :=
  List.mem_append_left _ (List.mem_filterMap.2 ⟨.tmp t, by simpa using h, rfl⟩)
theorem E_congr {f g : Fr} {all : Array Oper} {o : Oper} (h : ∀ t ∈ o.looksAt all, f.tmps.get t = g.tmps.get t) {x : Operand} (hx : x ∈ o.op.operands) : f.E x = g.E x := by
  cases x with
  | tmp t => exact h t (looks_operand hx)
  | _ => rfl
theorem ER_of {φ : Pm} {f : Fr} {a : Act} {all : Array Oper} {o : Oper} (h : ∀ t ∈ o.looksAt all, ∀ v, f.tmps.get t = some v → VR φ v (a.eval (.tmp t))) : ER' φ f.E a.eval o := by
  intro x hx v e
  cases x with
  | tmp t => exact h t (looks_operand hx) v e
  | const u =>
    simp only [Fr.E] at e
    split at e
    · rename_i hp; cases e; exact plain_refl 3 _ hp
    · cases e
  | global g => cases e
  | func k => cases e; exact .func rfl (fun i v v' a => by simp at a) rfl (fun i v v' a => by simp at a)
theorem out_wp {P : Program} {w0 : W0} {w : World} {φ : Pm} {st : St} {o : Oper} {a : Act} {u : Out} (hok : Out.ok P w0 φ st w (execOp a.eval o) u) {next : Act → World → Prop} {Q : Exit → Act → World → Prop}
    (hn : u.thn w0 φ st w fun v' w' => next (a.put o.dst v') w') : o.wp P a w next Q := by
  unfold Oper.wp
  cases u with
  | val v =>
    obtain ⟨v', w', h1, h2, h3⟩ := hok
    rw [h1]; exact hn v' w' h2 h3
  | new ob mk =>
    obtain ⟨ob', v', w', S, g, z, h1, h2, h3, h4, h5, h6⟩ := hok
    rw [h1]; exact hn ob' v' w' S g z h2 h3 h4 h5 h6
  | eff v st' =>
    obtain ⟨φ', w', h1, h2, h3⟩ := hok
    rcases h3 with ⟨v', h3, h4⟩ | ⟨h3, h4⟩
    · rw [h3]; exact hn φ' v' w' h1 h2 h4
    · rw [h3]; subst h4; exact hn φ' undef w' h1 h2 (VR.undef _)
theorem HR.part {w0 : W0} {w : World} {φ : Pm} {st : St} (H : HR w0 φ st w) {h : Tr Ob} (hh : ∀ b ob, h.get b = some ob → st.heap.get b = some ob) : HR w0 φ ⟨h, st.next⟩ w :=
  ⟨H.below, H.fresh, fun b hb => (by
    show h.get b = none
    cases e : h.get b with
    | none => rfl
    | some ob => have := hh b ob e; rw [H.absent b hb] at this; cases this),
    fun b ob hb hn => H.obj b ob (hh b ob hb) hn, H.inj, H.used, H.sym⟩
end Go.Ev
