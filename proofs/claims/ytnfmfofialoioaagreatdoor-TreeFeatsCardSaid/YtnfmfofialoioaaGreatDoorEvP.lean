/-
  A region whose order is drawn, run in one order: any order ends as this one.
-/
import Derived.Test.YtnfmfofialoioaaGreatDoorEvO
namespace Go.Ev
open Go Go.RowKit

variable {P : Program} {oo : OpO} {all : Array Oper} {its : List It} {w0 : W0} {st0 : St} {φ0 : Pm}

theorem Wait.not_look {D : Nat} {f : Fr} {st : St} {rest : List It} {listed : Array Bool} {φ : Pm} {a : Act} {w : World} {bl : Nat → Option Nat} {fr : Nat → Fr} (G : Good all its) (rd : RD P oo all its w0 st0 φ0 D f st rest listed φ a w bl fr)
    {x : It} (hx : x ∈ its) (hxD : Nat.testBit D x.i = false) (hp : ∀ e ∈ x.o.after, Region.binds .any e = true → listed.getD e.on false = true) : ∀ t ∈ x.o.looksAt all, ∀ v, f.tmps.get t = some v → VR φ v (a.eval (.tmp t)) := by
  intro t ht v hv
  refine rd.frame t v (fun y hy hd => ?_) hv
  rcases G.look x hx y hy.1 t hd ht with h1 | h1 | h1
  · have h2 := (G.ok x hx).mask _ rd.lClosed hp y.i h1
    rw [hy.2.2] at h2
    cases h2
  · have := hy.2.1; rw [h1, hxD] at this; cases this
  · have h2 := (G.ok y hy.1).mask _ rd.dClosed (fun e he hb => rd.dClosed _ _ (G.ok y hy.1).at' hy.2.1 e he hb) x.i h1
    rw [hxD] at h2; cases h2
/-- One that is ready sees what is. -/
theorem RD.ready_sees {D : Nat} {f : Fr} {st : St} {rest : List It} {listed : Array Bool} {φ : Pm} {a : Act} {w : World} {bl : Nat → Option Nat} {fr : Nat → Fr} (G : Good all its) (rd : RD P oo all its w0 st0 φ0 D f st rest listed φ a w bl fr)
    {x : It} (hw : Wait its D listed x) (hp : ∀ e ∈ x.o.after, Region.binds .any e = true → listed.getD e.on false = true) : ∀ t ∈ x.o.looksAt all, ∀ v, (fr x.i).tmps.get t = some v → VR φ v (a.eval (.tmp t)) := by
  intro t ht v hv
  refine (rd.sees x hw t ht v hv).2 fun y hy _ => ?_
  cases hb : Nat.testBit x.m y.i with
  | false => rfl
  | true =>
    have h2 := (G.ok x hw.1).mask _ rd.lClosed hp y.i hb
    rw [hy.2.2] at h2; cases h2

theorem nodup_inj : ∀ {l : List It}, (l.map (·.i)).Nodup → ∀ {x y : It}, x ∈ l → y ∈ l → x.i = y.i → x = y
  | [], _, _, _, hx, _, _ => by cases hx
  | z :: l, h, x, y, hx, hy, e => by
    simp only [List.map_cons, List.nodup_cons] at h
    rcases List.mem_cons.1 hx with hx1 | hx1
    · rcases List.mem_cons.1 hy with hy1 | hy1
      · rw [hx1, hy1]
      · exact (h.1 (List.mem_map.2 ⟨y, hy1, by rw [← e, hx1]⟩)).elim
    · rcases List.mem_cons.1 hy with hy1 | hy1
      · exact (h.1 (List.mem_map.2 ⟨x, hx1, by rw [e, hy1]⟩)).elim
      · exact nodup_inj h.2 hx1 hy1 e
theorem It.inj (G : Good all its) {x y : It} (hx : x ∈ its) (hy : y ∈ its) (h : x.i = y.i) : x = y := nodup_inj G.nd hx hy h

theorem getD_set_same {listed : Array Bool} {i : Nat} (h : i < listed.size) : (listed.setIfInBounds i true).getD i false = true := by simp [h]
theorem wait_set {D : Nat} {listed : Array Bool} {i : Nat} {y : It} (hi : i < listed.size) (h : Wait its D (listed.setIfInBounds i true) y) : Wait its D listed y ∧ y.i ≠ i := by
  obtain ⟨h1, h2, h3⟩ := h
  have hne : y.i ≠ i := fun e => by rw [e, getD_set_same hi] at h3; cases h3
  rw [getD_set_ne false (Ne.symm hne)] at h3
  exact ⟨⟨h1, h2, h3⟩, hne⟩

theorem closed_set {listed : Array Bool} {x : It} (hat : all[x.i]? = some x.o) (hp : ∀ e ∈ x.o.after, Region.binds .any e = true → listed.getD e.on false = true) (h : Closed all fun j => listed.getD j false = true) :
    Closed all fun j => (listed.setIfInBounds x.i true).getD j false = true := by
  intro j oj hj hl e he hb
  by_cases hij : j = x.i
  · subst hij
    rw [hat] at hj
    cases hj
    exact getD_set_true (hp e he hb)
  · rw [getD_set_ne false (Ne.symm hij)] at hl
    exact getD_set_true (h j oj hj hl e he hb)

/-- One is done that was told ahead. -/
theorem RD.done {D : Nat} {f : Fr} {st : St} {rest : List It} {listed : Array Bool} {φ : Pm} {a : Act} {w : World} {bl : Nat → Option Nat} {fr : Nat → Fr} (G : Good all its) (rd : RD P oo all its w0 st0 φ0 D f st rest listed φ a w bl fr)
    {x : It} (hwx : Wait its D listed x) (hp : ∀ e ∈ x.o.after, Region.binds .any e = true → listed.getD e.on false = true)
    {φ' : Pm} {w' : World} {v v' : Value} (hH : HR w0 φ' st w') (hK : Kept st0 φ0 st φ') (hle : Le φ φ') (hv : Holds f x.o v) (hvr : VR φ' v v')
    (hpend : ∀ y, Wait its D listed y → y.i ≠ x.i → Pend P oo all st0 φ' (fr y.i) f st y (bl y.i)) :
    RD P oo all its w0 st0 φ0 D f st rest (listed.setIfInBounds x.i true) φ' (a.put x.o.dst v') w' bl fr := by
  obtain ⟨hx, hD, hxl⟩ := hwx
  have hwx : Wait its D listed x := ⟨hx, hD, hxl⟩
  have hat := (G.ok x hx).at'
  have hlt : x.i < listed.size := by rw [rd.lsize]; exact (Array.getElem?_eq_some_iff.1 hat).1
  have back : ∀ y, Wait its D listed y → y.i ≠ x.i → Wait its D (listed.setIfInBounds x.i true) y := fun y hy hne => ⟨hy.1, hy.2.1, by rw [getD_set_ne false (Ne.symm hne)]; exact hy.2.2⟩
  refine ⟨rd.ops, hH, hK, ?_, ?_, rd.restIn, rd.restNd, rd.restNot, rd.restAll, rd.dClosed, by simpa using rd.lsize, fun j hj => ?_, closed_set hat hp rd.lClosed, fun t u hn hu => ?_, fun y hy => ?_, fun z hz t ht u hu => ⟨fun y hy hd hb => ?_, fun hno => ?_⟩, fun z hz hs t ht => ?_, rd.blInj, rd.blLt⟩
  · rw [← rd.size]; cases x.o.dst <;> simp [Act.put]
  · have := rd.defers.mono hle; cases x.o.dst <;> exact this
  · by_cases e : j = x.i
    · rw [e]; exact hD
    · rw [getD_set_ne false (Ne.symm e)] at hj; exact rd.lD j hj
  · rw [eval_put]
    by_cases e : x.o.dst = some t
    · obtain ⟨h1, h2⟩ := hv t e
      rw [if_pos ⟨e, by rw [rd.size]; exact h1⟩]
      rw [h2] at hu; cases hu
      exact hvr
    · rw [if_neg (fun h => e h.1)]
      refine (rd.frame t u (fun y hy hd => ?_) hu).mono hle
      by_cases e2 : y.i = x.i
      · exact e (by rw [← It.inj G hy.1 hx e2]; exact hd)
      · exact hn y (back y hy e2) hd
  · obtain ⟨h1, h2⟩ := wait_set hlt hy
    exact hpend y h1 h2
  · obtain ⟨hz1, hz2⟩ := wait_set hlt hz
    obtain ⟨hy1, hy2⟩ := wait_set hlt hy
    exact (rd.sees z hz1 t ht u hu).1 y hy1 hd hb
  · obtain ⟨hz1, hz2⟩ := wait_set hlt hz
    obtain ⟨s1, s2⟩ := rd.sees z hz1 t ht u hu
    rw [eval_put]
    by_cases e : x.o.dst = some t
    · obtain ⟨h1, h2⟩ := hv t e
      rw [if_pos ⟨e, by rw [rd.size]; exact h1⟩]
      rcases G.look z hz1.1 x hx t e ht with h3 | h3 | h3
      · have := s1 x hwx e h3
        rw [h2] at this; cases this
        exact hvr
      · exact absurd h3.symm hz2
      · have h4 := (G.ok x hx).mask _ rd.lClosed hp z.i h3
        rw [hz1.2.2] at h4; cases h4
    · rw [if_neg (fun h => e h.1)]
      refine (s2 fun y hy hd => ?_).mono hle
      by_cases e2 : y.i = x.i
      · exact absurd (by rw [← It.inj G hy.1 hx e2]; exact hd) e
      · exact hno y (back y hy e2) hd
  · exact rd.stab z (wait_set hlt hz).1 hs t ht

/-- The blocks that wait lie nowhere yet. -/
theorem Pend.mono {fi f : Fr} {st : St} {φ φ' : Pm} {x : It} {b : Option Nat} (h : Pend P oo all st0 φ fi f st x b) (hn : ∀ bi, b = some bi → φ bi = .none → φ' bi = .none) : Pend P oo all st0 φ' fi f st x b := by
  cases h with
  | off hw hv => exact .off hw hv
  | val hw hc v he hv => exact .val hw hc v he hv
  | rd hw hc h hh v he hv => exact .rd hw hc h hh v he hv
  | new hw ob mk bi hb he hv hn' h0 hg => exact .new hw ob mk bi hb he hv (hn bi hb hn') h0 hg

theorem RD.step {D : Nat} {f : Fr} {st : St} {rest : List It} {listed : Array Bool} {φ : Pm} {a : Act} {w : World} {bl : Nat → Option Nat} {fr : Nat → Fr} (G : Good all its) (rd : RD P oo all its w0 st0 φ0 D f st rest listed φ a w bl fr)
    {x : It} (hx : x ∈ its) (hD : Nat.testBit D x.i = true) (hr : x.i ∈ Region.ready .any all listed) {Q : Exit → Act → World → Prop} {K : Act → World → Prop}
    (hK : ∀ φ' a' w', RD P oo all its w0 st0 φ0 D f st rest (listed.setIfInBounds x.i true) φ' a' w' bl fr → K a' w') : wpOp P all Q x.i K a w := by
  obtain ⟨hun, o, ho, hp⟩ := mem_ready.1 hr
  have hat := (G.ok x hx).at'
  rw [hat] at ho
  cases ho
  have hlt : x.i < listed.size := by rw [rd.lsize]; exact (Array.getElem?_eq_some_iff.1 hat).1
  have hwait : Wait its D listed x := ⟨hx, hD, by simp [hlt] at hun ⊢; exact hun⟩
  have look := rd.ready_sees G hwait hp
  unfold wpOp
  simp only [hat]
  cases rd.pend x hwait with
  | off hw hv =>
    rw [awanted_ok2 look hw]
    exact hK φ _ w (rd.done G hwait hp rd.heap rd.kept (Le.refl _) hv (VR.undef _) fun y hy _ => rd.pend y hy)
  | val hw hc v he hv =>
    rw [awanted_ok2 look hw]
    refine .inl (out_wp (exec1_ok rd.ops rd.heap (ER_of look) (he st)) ?_)
    intro v' w' hs hvr
    exact hK φ _ w' (rd.done G hwait hp (rd.heap.same hs) rd.kept (Le.refl _) hv hvr fun y hy _ => rd.pend y hy)
  | rd hw hc h hh v he hv =>
    rw [awanted_ok2 look hw]
    refine .inl (out_wp (exec1_ok rd.ops (rd.heap.part hh) (ER_of look) (he st.next)) ?_)
    intro v' w' hs hvr
    exact hK φ _ w' (rd.done G hwait hp (rd.heap.same hs) rd.kept (Le.refl _) hv hvr fun y hy _ => rd.pend y hy)
  | new hw ob mk bi hb he hv hn h0 hg =>
    rw [awanted_ok2 look hw]
    refine .inl (out_wp (exec1_ok rd.ops rd.heap (ER_of look) (he st)) ?_)
    intro ob' v' w' S g z k1 k2 k3 k4 k5
    obtain ⟨m1, m2⟩ := k5 (φ.tell bi (.live w.heap.size 0 S g z)) bi (Le.tell hn) (Pm.tell_same _ _ _)
    refine hK _ _ w' (rd.done G hwait hp (rd.heap.real hn hg k1 k2 k3 k4 m1) ⟨rd.kept.next, rd.kept.le.trans (Le.tell hn), fun c hc' hcn => ?_⟩ (Le.tell hn) hv m2 fun y hy hne => ?_)
    · obtain ⟨q1, q2⟩ := rd.kept.none c hc' hcn
      exact ⟨by rw [Pm.tell_other _ _ _ _ (by omega)]; exact q1, q2⟩
    · refine (rd.pend y hy).mono fun bj hbj hnj => ?_
      rw [Pm.tell_other _ _ _ _ (fun e => hne (rd.blInj _ _ bi (by rw [hbj, e]) hb))]
      exact hnj

theorem testBit_set (D i j : Nat) : Nat.testBit (Nat.lor D (2 ^ i)) j = (Nat.testBit D j || decide (i = j)) := by rw [testBit_lor, Nat.testBit_two_pow]
theorem closed_bit {D : Nat} {x : It} (hat : all[x.i]? = some x.o) (hp : ∀ e ∈ x.o.after, Region.binds .any e = true → Nat.testBit D e.on = true) (h : Closed all fun j => Nat.testBit D j = true) :
    Closed all fun j => Nat.testBit (Nat.lor D (2 ^ x.i)) j = true := by
  intro j oj hj hl e he hb
  simp only [testBit_set, Bool.or_eq_true, decide_eq_true_eq] at hl ⊢
  rcases hl with hl | rfl
  · exact .inl (h j oj hj hl e he hb)
  · rw [hat] at hj
    cases hj
    exact .inl (hp e he hb)

/-- One more is told: what is left. -/
structure Left (all : Array Oper) (its : List It) (D : Nat) (rest : List It) : Prop where
  restIn : ∀ x ∈ rest, x ∈ its
  restNd : (rest.map (·.i)).Nodup
  restNot : ∀ x ∈ rest, Nat.testBit D x.i = false
  restAll : ∀ j, j < all.size → Nat.testBit D j = true ∨ ∃ x ∈ rest, x.i = j
theorem Left.less {D : Nat} {rest r : List It} {x : It} (h : Left all its D rest) (hp : List.Perm rest (x :: r)) : x ∈ its ∧ Nat.testBit D x.i = false ∧ Left all its (Nat.lor D (2 ^ x.i)) r := by
  have hxr : x ∈ rest := hp.mem_iff.2 (by simp)
  have hnd : ((x :: r).map (·.i)).Nodup := (hp.map _).nodup_iff.1 h.restNd
  simp only [List.map_cons, List.nodup_cons] at hnd
  refine ⟨h.restIn x hxr, h.restNot x hxr, fun y hy => h.restIn y (hp.mem_iff.2 (List.mem_cons_of_mem _ hy)), hnd.2, fun y hy => ?_, fun j hj => ?_⟩
  · have h1 := h.restNot y (hp.mem_iff.2 (List.mem_cons_of_mem _ hy))
    have h2 : ¬ x.i = y.i := fun e => hnd.1 (e ▸ List.mem_map.2 ⟨y, hy, rfl⟩)
    rw [testBit_set, h1]
    simp [h2]
  · rw [testBit_set]
    rcases h.restAll j hj with h1 | ⟨y, hy, rfl⟩
    · exact .inl (by simp [h1])
    · rcases List.mem_cons.1 (hp.mem_iff.1 hy) with rfl | hy
      · exact .inl (by simp)
      · exact .inr ⟨y, hy, rfl⟩
theorem RD.left {D : Nat} {f : Fr} {st : St} {rest : List It} {listed : Array Bool} {φ : Pm} {a : Act} {w : World} {bl : Nat → Option Nat} {fr : Nat → Fr} (rd : RD P oo all its w0 st0 φ0 D f st rest listed φ a w bl fr) : Left all its D rest :=
  ⟨rd.restIn, rd.restNd, rd.restNot, rd.restAll⟩
end Go.Ev
