/-
  A region whose order is drawn, run in one order: any order ends as this one.
-/
import Derived.Test.YtcgnjmcakmfjeaaEvO
namespace Go.Ev
open Go Go.RowKit

variable {P : Program} {all : Array Oper} {its : List It} {w0 : World} {st0 : St} {φ0 : Pm}

theorem Wait.not_look {D : Nat} {f : Fr} {st : St} {rest : List It} {listed : Array Bool} {φ : Pm} {a : Act} {w : World} {bl : Nat → Option Nat} (G : Good all its) (rd : RD P all its w0 st0 φ0 D f st rest listed φ a w bl)
    {x : It} (hx : x ∈ its) (hp : ∀ e ∈ x.o.after, Region.binds .any e = true → listed.getD e.on false = true) : ∀ t ∈ x.o.looksAt all, ∀ v, f.tmps.get t = some v → VR φ v (a.eval (.tmp t)) := by
  intro t ht v hv
  refine rd.frame t v (fun y hy hd => ?_) hv
  have h1 := G.look x hx y hy.1 t hd ht
  have h2 := (G.ok x hx).mask _ rd.lClosed hp y.i h1
  rw [hy.2.2] at h2
  cases h2

theorem nodup_inj : ∀ {l : List It}, (l.map (·.i)).Nodup → ∀ {x y : It}, x ∈ l → y ∈ l → x.i = y.i → x = y
  | [], _, _, _, hx, _, _ => by cases hx
  | z :: l, h, x, y, hx, hy, e => by
    simp only [List.map_cons, List.nodup_cons] at h
    rcases List.mem_cons.1 hx with hx1 | hx1
    · rcases List.mem_cons.1 hy with hy1 | hy1
      · rw [hx1, hy1]
      · exact (h.1 (List.mem_map.2 ⟨y, hy1, by rw [← e, hx1]⟩)).elim
    · rcases List.mem_cons.1 hy with hy1 | hy1
      · exact (h.1 (List.mem_map.2 ⟨x, hx1, by rw [e, hy1]⟩)).elim
      · exact nodup_inj h.2 hx1 hy1 e
theorem It.inj (G : Good all its) {x y : It} (hx : x ∈ its) (hy : y ∈ its) (h : x.i = y.i) : x = y := nodup_inj G.nd hx hy h

theorem getD_set_same {listed : Array Bool} {i : Nat} (h : i < listed.size) : (listed.setIfInBounds i true).getD i false = true := by simp [h]
theorem wait_set {D : Nat} {listed : Array Bool} {i : Nat} {y : It} (hi : i < listed.size) (h : Wait its D (listed.setIfInBounds i true) y) : Wait its D listed y ∧ y.i ≠ i := by
  obtain ⟨h1, h2, h3⟩ := h
  have hne : y.i ≠ i := fun e => by rw [e, getD_set_same hi] at h3; cases h3
  rw [getD_set_ne false (Ne.symm hne)] at h3
  exact ⟨⟨h1, h2, h3⟩, hne⟩

theorem closed_set {listed : Array Bool} {x : It} (hat : all[x.i]? = some x.o) (hp : ∀ e ∈ x.o.after, Region.binds .any e = true → listed.getD e.on false = true) (h : Closed all fun j => listed.getD j false = true) :
    Closed all fun j => (listed.setIfInBounds x.i true).getD j false = true := by
  intro j oj hj hl e he hb
  by_cases hij : j = x.i
  · subst hij
    rw [hat] at hj
    cases hj
    exact getD_set_true (hp e he hb)
  · rw [getD_set_ne false (Ne.symm hij)] at hl
    exact getD_set_true (h j oj hj hl e he hb)

/-- One is done that was told ahead. -/
theorem RD.done {D : Nat} {f : Fr} {st : St} {rest : List It} {listed : Array Bool} {φ : Pm} {a : Act} {w : World} {bl : Nat → Option Nat} (G : Good all its) (rd : RD P all its w0 st0 φ0 D f st rest listed φ a w bl)
    {x : It} (hx : x ∈ its) (hD : Nat.testBit D x.i = true) (hp : ∀ e ∈ x.o.after, Region.binds .any e = true → listed.getD e.on false = true)
    {φ' : Pm} {w' : World} {v v' : Value} (hH : HR w0 φ' st w') (hK : Kept st0 φ0 st φ') (hle : Le φ φ') (hv : Holds f x.o v) (hvr : VR φ' v v')
    (hpend : ∀ y, Wait its D listed y → y.i ≠ x.i → Pend P all st0 φ' f st y (bl y.i)) :
    RD P all its w0 st0 φ0 D f st rest (listed.setIfInBounds x.i true) φ' (a.put x.o.dst v') w' bl := by
  have hat := (G.ok x hx).at'
  have hlt : x.i < listed.size := by rw [rd.lsize]; exact (Array.getElem?_eq_some_iff.1 hat).1
  refine ⟨hH, hK, ?_, ?_, rd.restIn, rd.restNd, rd.restNot, rd.restAll, rd.dClosed, by simpa using rd.lsize, fun j hj => ?_, closed_set hat hp rd.lClosed, fun t u hn hu => ?_, fun y hy => ?_, rd.blInj, rd.blLt⟩
  · rw [← rd.size]; cases x.o.dst <;> simp [Act.put]
  · rw [← rd.defers]; cases x.o.dst <;> rfl
  · by_cases e : j = x.i
    · rw [e]; exact hD
    · rw [getD_set_ne false (Ne.symm e)] at hj; exact rd.lD j hj
  · rw [eval_put]
    by_cases e : x.o.dst = some t
    · obtain ⟨h1, h2⟩ := hv t e
      rw [if_pos ⟨e, by rw [rd.size]; exact h1⟩]
      rw [h2] at hu; cases hu
      exact hvr
    · rw [if_neg (fun h => e h.1)]
      refine (rd.frame t u (fun y hy hd => ?_) hu).mono hle
      by_cases e2 : y.i = x.i
      · exact e (by rw [← It.inj G hy.1 hx e2]; exact hd)
      · exact hn y ⟨hy.1, hy.2.1, by rw [getD_set_ne false (Ne.symm e2)]; exact hy.2.2⟩ hd
  · obtain ⟨h1, h2⟩ := wait_set hlt hy
    exact hpend y h1 h2

/-- The blocks that wait lie nowhere yet. -/
theorem Pend.mono {f : Fr} {st : St} {φ φ' : Pm} {x : It} {b : Option Nat} (h : Pend P all st0 φ f st x b) (hn : ∀ bi, b = some bi → φ bi = .none → φ' bi = .none) : Pend P all st0 φ' f st x b := by
  cases h with
  | off fi hl hw hv => exact .off fi hl hw hv
  | val fi hl hw hc v he hv => exact .val fi hl hw hc v he hv
  | rd fi hl hw hc h hh v he hv => exact .rd fi hl hw hc h hh v he hv
  | new fi hl hw hc ob mk bi hb he hv hn' h0 hg => exact .new fi hl hw hc ob mk bi hb he hv (hn bi hb hn') h0 hg

theorem RD.step {D : Nat} {f : Fr} {st : St} {rest : List It} {listed : Array Bool} {φ : Pm} {a : Act} {w : World} {bl : Nat → Option Nat} (G : Good all its) (rd : RD P all its w0 st0 φ0 D f st rest listed φ a w bl)
    {x : It} (hx : x ∈ its) (hD : Nat.testBit D x.i = true) (hr : x.i ∈ Region.ready .any all listed) {Q : Exit → Act → World → Prop} {K : Act → World → Prop}
    (hK : ∀ φ' a' w', RD P all its w0 st0 φ0 D f st rest (listed.setIfInBounds x.i true) φ' a' w' bl → K a' w') : wpOp P all Q x.i K a w := by
  obtain ⟨hun, o, ho, hp⟩ := mem_ready.1 hr
  have hat := (G.ok x hx).at'
  rw [hat] at ho
  cases ho
  have hlt : x.i < listed.size := by rw [rd.lsize]; exact (Array.getElem?_eq_some_iff.1 hat).1
  have hwait : Wait its D listed x := ⟨hx, hD, by simp [hlt] at hun ⊢; exact hun⟩
  have look := Wait.not_look G rd hx hp
  have lookI : ∀ fi : Fr, (∀ t ∈ x.o.looksAt all, f.tmps.get t = fi.tmps.get t) → ∀ t ∈ x.o.looksAt all, ∀ v, fi.tmps.get t = some v → VR φ v (a.eval (.tmp t)) :=
    fun fi hl t ht v hv => look t ht v (by rw [hl t ht]; exact hv)
  unfold wpOp
  simp only [hat]
  cases rd.pend x hwait with
  | off fi hl hw hv =>
    rw [awanted_ok2 (lookI fi hl) hw]
    exact hK φ _ w (rd.done G hx hD hp rd.heap rd.kept (Le.refl _) hv (VR.undef _) fun y hy _ => rd.pend y hy)
  | val fi hl hw hc v he hv =>
    rw [awanted_ok2 (lookI fi hl) hw]
    refine .inl (out_wp (exec1_ok rd.heap (ER_of (lookI fi hl)) (he st)) ?_)
    intro v' w' hs hvr
    exact hK φ _ w' (rd.done G hx hD hp (rd.heap.same hs) rd.kept (Le.refl _) hv hvr fun y hy _ => rd.pend y hy)
  | rd fi hl hw hc h hh v he hv =>
    rw [awanted_ok2 (lookI fi hl) hw]
    refine .inl (out_wp (exec1_ok (rd.heap.part hh) (ER_of (lookI fi hl)) (he st.next)) ?_)
    intro v' w' hs hvr
    exact hK φ _ w' (rd.done G hx hD hp (rd.heap.same hs) rd.kept (Le.refl _) hv hvr fun y hy _ => rd.pend y hy)
  | new fi hl hw hc ob mk bi hb he hv hn h0 hg =>
    rw [awanted_ok2 (lookI fi hl) hw]
    refine .inl (out_wp (exec1_ok rd.heap (ER_of (lookI fi hl)) (he st)) ?_)
    intro ob' v' w' S g z k1 k2 k3 k4 k5
    obtain ⟨m1, m2⟩ := k5 (φ.tell bi (.live w.heap.size 0 S g z)) bi (Le.tell hn) (Pm.tell_same _ _ _)
    refine hK _ _ w' (rd.done G hx hD hp (rd.heap.real hn hg k1 k2 k3 k4 m1) ⟨rd.kept.next, rd.kept.le.trans (Le.tell hn), fun c hc' hcn => ?_⟩ (Le.tell hn) hv m2 fun y hy hne => ?_)
    · obtain ⟨q1, q2⟩ := rd.kept.none c hc' hcn
      exact ⟨by rw [Pm.tell_other _ _ _ _ (by omega)]; exact q1, q2⟩
    · refine (rd.pend y hy).mono fun bj hbj hnj => ?_
      rw [Pm.tell_other _ _ _ _ (fun e => hne (rd.blInj _ _ bi (by rw [hbj, e]) hb))]
      exact hnj

theorem testBit_set (D i j : Nat) : Nat.testBit (Nat.lor D (2 ^ i)) j = (Nat.testBit D j || decide (i = j)) := by rw [testBit_lor, Nat.testBit_two_pow]
theorem closed_bit {D : Nat} {x : It} (hat : all[x.i]? = some x.o) (hp : ∀ e ∈ x.o.after, Region.binds .any e = true → Nat.testBit D e.on = true) (h : Closed all fun j => Nat.testBit D j = true) :
    Closed all fun j => Nat.testBit (Nat.lor D (2 ^ x.i)) j = true := by
  intro j oj hj hl e he hb
  simp only [testBit_set, Bool.or_eq_true, decide_eq_true_eq] at hl ⊢
  rcases hl with hl | rfl
  · exact .inl (h j oj hj hl e he hb)
  · rw [hat] at hj
    cases hj
    exact .inl (hp e he hb)

/-- One more is told: what is left. -/
structure Left (all : Array Oper) (its : List It) (D : Nat) (rest : List It) : Prop where
  restIn : ∀ x ∈ rest, x ∈ its
  restNd : (rest.map (·.i)).Nodup
  restNot : ∀ x ∈ rest, Nat.testBit D x.i = false
  restAll : ∀ j, j < all.size → Nat.testBit D j = true ∨ ∃ x ∈ rest, x.i = j
theorem Left.less {D : Nat} {rest r : List It} {x : It} (h : Left all its D rest) (hp : List.Perm rest (x :: r)) : x ∈ its ∧ Nat.testBit D x.i = false ∧ Left all its (Nat.lor D (2 ^ x.i)) r := by
  have hxr : x ∈ rest := hp.mem_iff.2 (by simp)
  have hnd : ((x :: r).map (·.i)).Nodup := (hp.map _).nodup_iff.1 h.restNd
  simp only [List.map_cons, List.nodup_cons] at hnd
  refine ⟨h.restIn x hxr, h.restNot x hxr, fun y hy => h.restIn y (hp.mem_iff.2 (List.mem_cons_of_mem _ hy)), hnd.2, fun y hy => ?_, fun j hj => ?_⟩
  · have h1 := h.restNot y (hp.mem_iff.2 (List.mem_cons_of_mem _ hy))
    have h2 : ¬ x.i = y.i := fun e => hnd.1 (e ▸ List.mem_map.2 ⟨y, hy, rfl⟩)
    rw [testBit_set, h1]
    simp [h2]
  · rw [testBit_set]
    rcases h.restAll j hj with h1 | ⟨y, hy, rfl⟩
    · exact .inl (by simp [h1])
    · rcases List.mem_cons.1 (hp.mem_iff.1 hy) with rfl | hy
      · exact .inl (by simp)
      · exact .inr ⟨y, hy, rfl⟩
theorem RD.left {D : Nat} {f : Fr} {st : St} {rest : List It} {listed : Array Bool} {φ : Pm} {a : Act} {w : World} {bl : Nat → Option Nat} (rd : RD P all its w0 st0 φ0 D f st rest listed φ a w bl) : Left all its D rest :=
  ⟨rd.restIn, rd.restNd, rd.restNot, rd.restAll⟩
end Go.Ev
