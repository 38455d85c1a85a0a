/-
  A region whose order is drawn: the run in one order, and the theorem.
-/
import Derived.Test.YtcgnjmcakmfjeaaEvP
namespace Go.Ev
open Go Go.RowKit

variable {P : Program} {all : Array Oper} {its : List It} {w0 : World} {st0 : St} {φ0 : Pm}

theorem put_other {f : Fr} {dst : Option Tmp} {v : Value} {t : Tmp} (h : dst ≠ some t) : (f.put dst v).tmps.get t = f.tmps.get t := by rw [Fr.get_put, if_neg (fun e => h e.1)]
theorem Holds.put {f : Fr} {o : Oper} {u : Value} (h : Holds f o u) {dst : Option Tmp} (hd : ∀ d, o.dst = some d → dst ≠ some d) (v : Value) : Holds (f.put dst v) o u := fun d e => by
  obtain ⟨h1, h2⟩ := h d e
  exact ⟨by rw [Fr.put_size]; exact h1, by rw [put_other (hd d e)]; exact h2⟩
theorem Holds.own {f : Fr} {o : Oper} {v : Value} (h : dstOk f o = true) : Holds (f.put o.dst v) o v := fun d e => by
  unfold dstOk at h
  rw [e] at h
  have hlt : d < f.size := Nat.le_of_ble_eq_true h
  exact ⟨by rw [Fr.put_size]; exact hlt, by rw [Fr.get_put, if_pos ⟨e, hlt⟩]⟩

theorem told_not_look {D : Nat} (G : Good all its) (hc : Closed all fun j => Nat.testBit D j = true) {x y : It} (hx : x ∈ its) (hy : y ∈ its) (hxD : Nat.testBit D x.i = false) (hyD : Nat.testBit D y.i = true) :
    ∀ t ∈ y.o.looksAt all, x.o.dst ≠ some t := by
  intro t ht hd
  have h1 := G.look y hy x hx t hd ht
  have h2 := (G.ok y hy).mask _ hc (fun e he hb => hc _ _ (G.ok y hy).at' hyD e he hb) x.i h1
  rw [hxD] at h2
  cases h2

/-- Another one is told, or done: those that wait go on waiting. -/
theorem Pend.put {f : Fr} {st st' : St} {φ : Pm} {x y : It} {b : Option Nat} (h : Pend P all st0 φ f st y b) (v : Value) (hl : ∀ t ∈ y.o.looksAt all, x.o.dst ≠ some t) (hd : ∀ d, y.o.dst = some d → x.o.dst ≠ some d)
    (hh : ∀ b ob, st.heap.get b = some ob → st'.heap.get b = some ob) : Pend P all st0 φ (f.put x.o.dst v) st' y b := by
  have key : ∀ fi : Fr, (∀ t ∈ y.o.looksAt all, f.tmps.get t = fi.tmps.get t) → ∀ t ∈ y.o.looksAt all, (f.put x.o.dst v).tmps.get t = fi.tmps.get t := fun fi h t ht => by rw [put_other (hl t ht)]; exact h t ht
  cases h with
  | off fi hl hw hv => exact .off fi (key fi hl) hw (hv.put hd v)
  | val fi hl hw hc u he hv => exact .val fi (key fi hl) hw hc u he (hv.put hd v)
  | rd fi hl hw hc h hh' u he hv => exact .rd fi (key fi hl) hw hc h (fun b ob e => hh b ob (hh' b ob e)) u he (hv.put hd v)
  | new fi hl hw hc ob mk bi hb he hv hn h0 hg => exact .new fi (key fi hl) hw hc ob mk bi hb he (hv.put hd v) hn h0 (hh _ _ hg)

theorem RD.take {D : Nat} {f : Fr} {st : St} {rest : List It} {listed : Array Bool} {φ : Pm} {a : Act} {w : World} {bl : Nat → Option Nat} (G : Good all its) (rd : RD P all its w0 st0 φ0 D f st rest listed φ a w bl)
    {x : It} {v : Value} {st' : St} {r : List It} (hp : pick P all.toList D f st rest = some (x, v, st', r)) : ∃ bl', RD P all its w0 st0 φ0 (Nat.lor D (2 ^ x.i)) (f.put x.o.dst v) st' r listed φ a w bl' := by
  obtain ⟨h1, h2, h3, h4⟩ := pick_ok hp
  obtain ⟨hx, hxD, L⟩ := rd.left.less h1
  have hat := (G.ok x hx).at'
  have hpD : ∀ e ∈ x.o.after, Region.binds .any e = true → Nat.testBit D e.on = true := fun e he hb => subB_mem h2 ((G.ok x hx).pred e he hb).2
  have hself : ∀ t ∈ x.o.looksAt all, x.o.dst ≠ some t := fun t ht hd => by
    have := subB_mem h2 (G.look x hx x hx t hd ht)
    rw [hxD] at this; cases this
  have hxl : listed.getD x.i false = false := by
    cases e : listed.getD x.i false with
    | false => rfl
    | true => have := rd.lD _ e; rw [hxD] at this; cases this
  have wait : ∀ y, Wait its (Nat.lor D (2 ^ x.i)) listed y → y = x ∨ (Wait its D listed y ∧ y.i ≠ x.i) := fun y hy => by
    obtain ⟨m1, m2, m3⟩ := hy
    rw [testBit_set, Bool.or_eq_true, decide_eq_true_eq] at m2
    by_cases e : y.i = x.i
    · exact .inl (It.inj G m1 hx e)
    · rcases m2 with m2 | m2
      · exact .inr ⟨⟨m1, m2, m3⟩, e⟩
      · exact absurd m2.symm e
  have waitx : Wait its (Nat.lor D (2 ^ x.i)) listed x := ⟨hx, by rw [testBit_set]; simp, hxl⟩
  have waito : ∀ y, Wait its D listed y → Wait its (Nat.lor D (2 ^ x.i)) listed y := fun y hy => ⟨hy.1, by rw [testBit_set, hy.2.1]; rfl, hy.2.2⟩
  have hown : Holds (f.put x.o.dst v) x.o v := Holds.own h3
  have hlk : ∀ t ∈ x.o.looksAt all, (f.put x.o.dst v).tmps.get t = f.tmps.get t := fun t ht => put_other (hself t ht)
  have others : ∀ y, Wait its D listed y → (∀ t ∈ y.o.looksAt all, x.o.dst ≠ some t) ∧ ∀ d, y.o.dst = some d → x.o.dst ≠ some d := fun y hy =>
    ⟨told_not_look G rd.dClosed hx hy.1 hxD hy.2.1, fun d hd hd' => by
      have := G.uniq x hx y hy.1 d hd' hd
      rw [this, hy.2.1] at hxD; cases hxD⟩
  have frame : ∀ t u, (∀ y, Wait its (Nat.lor D (2 ^ x.i)) listed y → y.o.dst ≠ some t) → (f.put x.o.dst v).tmps.get t = some u → VR φ u (a.eval (.tmp t)) := fun t u hn hu => by
    rw [put_other (hn x waitx)] at hu
    exact rd.frame t u (fun y hy => hn y (waito y hy)) hu
  have size : a.tmps.size = (f.put x.o.dst v).size := by rw [Fr.put_size]; exact rd.size
  have lD : ∀ j, listed.getD j false = true → Nat.testBit (Nat.lor D (2 ^ x.i)) j = true := fun j hj => by rw [testBit_set, rd.lD j hj]; rfl
  have same : st' = st → Pend P all st0 φ (f.put x.o.dst v) st x (bl x.i) → ∃ bl', RD P all its w0 st0 φ0 (Nat.lor D (2 ^ x.i)) (f.put x.o.dst v) st' r listed φ a w bl' := fun e hpx => by
    subst e
    refine ⟨bl, rd.heap, rd.kept, size, rd.defers, L.restIn, L.restNd, L.restNot, L.restAll, closed_bit hat hpD rd.dClosed, rd.lsize, lD, rd.lClosed, frame, fun y hy => ?_, rd.blInj, rd.blLt⟩
    rcases wait y hy with rfl | ⟨hy, _⟩
    · exact hpx
    · exact (rd.pend y hy).put v (others y hy).1 (others y hy).2 fun _ _ h => h
  unfold quiet at h4
  split at h4
  · rename_i hw
    cases h4
    exact same rfl (.off f hlk hw hown)
  · rename_i hw
    split at h4
    · cases h4
    · rename_i hc
      split at h4
      · rename_i u hu
        cases h4
        exact same rfl (.val f hlk hw hc _ (fun s => by rw [exec1_any hc]; exact hu) hown)
      · rename_i ob mk hu
        cases h4
        have hab := rd.heap.absent st.next (Nat.le_refl _)
        have hh : ∀ b ob', st.heap.get b = some ob' → (st.heap.put st.next (some ob)).get b = some ob' := fun b ob' hb => by
          rw [Tr.get_put_eq, if_neg (fun e => by subst e; rw [hab] at hb; cases hb)]; exact hb
        refine ⟨fun i => if i = x.i then some st.next else bl i, rd.heap.virt ob, rd.kept.trans ⟨Nat.le_succ _, Le.refl _, fun b hb hn => ⟨hn, ?_⟩⟩, size, rd.defers, L.restIn, L.restNd, L.restNot, L.restAll, closed_bit hat hpD rd.dClosed, rd.lsize, lD, rd.lClosed, frame, fun y hy => ?_, fun i j b hi hj => ?_, fun i b hi => ?_⟩
        · show (st.heap.put st.next (some ob)).get b = _
          rw [Tr.get_put_eq, if_neg (by omega)]
        · rcases wait y hy with rfl | ⟨hy, hne⟩
          · refine .new f hlk hw hc ob mk st.next (by simp) (fun s => by rw [exec1_any hc]; exact hu) hown (rd.heap.fresh _ (Nat.le_refl _)) rd.kept.next ?_
            show (st.heap.put st.next (some ob)).get st.next = _
            rw [Tr.get_put_eq, if_pos rfl]
          · simp only [hne, if_false]
            exact (rd.pend y hy).put _ (others y hy).1 (others y hy).2 hh
        · by_cases e1 : i = x.i
          · by_cases e2 : j = x.i
            · rw [e1, e2]
            · simp only [e1, if_true] at hi
              simp only [e2, if_false] at hj
              cases hi
              exact absurd (rd.blLt _ _ hj) (by omega)
          · simp only [e1, if_false] at hi
            by_cases e2 : j = x.i
            · simp only [e2, if_true] at hj
              cases hj
              exact absurd (rd.blLt _ _ hi) (by omega)
            · simp only [e2, if_false] at hj
              exact rd.blInj _ _ _ hi hj
        · show b < st.next + 1
          by_cases e1 : i = x.i
          · simp only [e1, if_true] at hi; cases hi; omega
          · simp only [e1, if_false] at hi; have := rd.blLt _ _ hi; omega
      · cases h4
    · rename_i hc
      split at h4
      · rename_i u hu
        cases h4
        refine same rfl (.rd f hlk hw hc _ (fun _ _ h => h) _ (fun n => ?_) hown)
        exact (exec1_read hc).trans hu
      · cases h4
  · cases h4

theorem RD.eff {call : CallF} (hcall : CallOk P call) {D : Nat} {f : Fr} {st : St} {rest : List It} {listed : Array Bool} {φ : Pm} {a : Act} {w : World} {bl : Nat → Option Nat} (G : Good all its) (rd : RD P all its w0 st0 φ0 D f st rest listed φ a w bl)
    {e : It} {r : List It} (hp : List.Perm rest (e :: r)) (hw : awanted all.toList f e.o = some true) {u : Out} (hu : evGot P call f.E st e.o = some u) (hre : recheck P all.toList (f.put e.o.dst (u.to st).1) (u.to st).2 e D its = true)
    (hr : e.i ∈ Region.ready .any all listed) {Q : Exit → Act → World → Prop} {K : Act → World → Prop}
    (hK : ∀ φ' a' w', RD P all its w0 st0 φ0 (Nat.lor D (2 ^ e.i)) (f.put e.o.dst (u.to st).1) (u.to st).2 r (listed.setIfInBounds e.i true) φ' a' w' bl → K a' w') : wpOp P all Q e.i K a w := by
  obtain ⟨hx, hxD, L⟩ := rd.left.less hp
  obtain ⟨hun, o, ho, hpl⟩ := mem_ready.1 hr
  have hat := (G.ok e hx).at'
  rw [hat] at ho
  cases ho
  have hlt : e.i < listed.size := by rw [rd.lsize]; exact (Array.getElem?_eq_some_iff.1 hat).1
  have look := Wait.not_look G rd hx hpl
  unfold wpOp
  simp only [hat]
  rw [awanted_ok2 look hw]
  refine .inl (evGot_wp hcall rd.heap (ER_of look) hu (thn_to rd.heap fun φ' v' w' h1 h2 h3 => hK φ' _ w' ?_))
  have others : ∀ y, Wait its D listed y → (∀ t ∈ y.o.looksAt all, e.o.dst ≠ some t) ∧ ∀ d, y.o.dst = some d → e.o.dst ≠ some d := fun y hy =>
    ⟨told_not_look G rd.dClosed hx hy.1 hxD hy.2.1, fun d hd hd' => by
      have := G.uniq e hx y hy.1 d hd' hd
      rw [this, hy.2.1] at hxD; cases hxD⟩
  have wait : ∀ y, Wait its (Nat.lor D (2 ^ e.i)) (listed.setIfInBounds e.i true) y → Wait its D listed y := fun y hy => by
    obtain ⟨m1, m2, m3⟩ := hy
    have hne : y.i ≠ e.i := fun e' => by rw [e', getD_set_same hlt] at m3; cases m3
    rw [getD_set_ne false (Ne.symm hne)] at m3
    rw [testBit_set, Bool.or_eq_true, decide_eq_true_eq] at m2
    rcases m2 with m2 | m2
    · exact ⟨m1, m2, m3⟩
    · exact absurd m2.symm hne
  have waito : ∀ y, Wait its D listed y → Wait its (Nat.lor D (2 ^ e.i)) (listed.setIfInBounds e.i true) y := fun y hy => by
    have hne : y.i ≠ e.i := fun e' => by have := hy.2.1; rw [e', hxD] at this; cases this
    exact ⟨hy.1, by rw [testBit_set, hy.2.1]; rfl, by rw [getD_set_ne false (Ne.symm hne)]; exact hy.2.2⟩
  refine ⟨h1, rd.kept.trans h2, ?_, ?_, L.restIn, L.restNd, L.restNot, L.restAll, closed_bit hat (fun x hx' hb => rd.lD _ (hpl x hx' hb)) rd.dClosed, by simpa using rd.lsize, fun j hj => ?_, closed_set hat hpl rd.lClosed, fun t q hn hq => ?_, fun y hy => ?_, rd.blInj, fun i b hi => Nat.lt_of_lt_of_le (rd.blLt i b hi) h2.next⟩
  · rw [Fr.put_size, ← rd.size]; cases e.o.dst <;> simp [Act.put]
  · rw [← rd.defers]; cases e.o.dst <;> rfl
  · rw [testBit_set]
    by_cases e' : j = e.i
    · simp [e']
    · rw [getD_set_ne false (Ne.symm e')] at hj; rw [rd.lD j hj]; rfl
  · rw [eval_put]
    rw [Fr.get_put] at hq
    rw [rd.size]
    split at hq
    · rename_i hc; rw [if_pos hc]; cases hq; exact h3
    · rename_i hc; rw [if_neg hc]
      exact (rd.frame t q (fun y hy => hn y (waito y hy)) hq).mono h2.le
  · have hy0 := wait y hy
    obtain ⟨o1, o2⟩ := others y hy0
    have key : ∀ fi : Fr, (∀ t ∈ y.o.looksAt all, f.tmps.get t = fi.tmps.get t) → ∀ t ∈ y.o.looksAt all, (f.put e.o.dst (u.to st).1).tmps.get t = fi.tmps.get t := fun fi h t ht => by rw [put_other (o1 t ht)]; exact h t ht
    cases rd.pend y hy0 with
    | off fi hl hw hv => exact .off fi (key fi hl) hw (hv.put o2 _)
    | val fi hl hw hc q he hv => exact .val fi (key fi hl) hw hc q he (hv.put o2 _)
    | rd fi hl hw hc h hh q he hv =>
      have hm : Nat.testBit e.m y.i = false := by
        cases hb : Nat.testBit e.m y.i with
        | false => rfl
        | true =>
          have := (G.ok e hx).mask _ rd.lClosed hpl y.i hb
          rw [hy0.2.2] at this; cases this
      have hrr := recheck_ok hre y hy0.1 hc hy0.2.1 hm
      have hw' : awanted all.toList (f.put e.o.dst (u.to st).1) y.o = some true := by rw [awanted_congr (key fi hl)]; exact hw
      unfold reread at hrr
      rw [hw'] at hrr
      simp only at hrr
      split at hrr
      · rename_i q2 hq2
        refine .rd _ (fun _ _ => rfl) hw' hc (u.to st).2.heap (fun _ _ h => h) q2 (fun n => by rw [exec1_read (m := (u.to st).2.next) hc]; exact hq2) fun d hd => ?_
        obtain ⟨k1, k2⟩ := hv.put (dst := e.o.dst) o2 (u.to st).1 d hd
        refine ⟨k1, ?_⟩
        rw [hd] at hrr
        simp only [k2] at hrr
        rw [k2, veq_eq hrr]
      · cases hrr
    | new fi hl hw hc ob mk bi hb he hv hn h0 hg =>
      obtain ⟨n1, n2⟩ := h2.none bi (rd.blLt _ _ hb) hn
      exact .new fi (key fi hl) hw hc ob mk bi hb he (hv.put o2 _) n1 h0 (by rw [n2]; exact hg)
end Go.Ev
