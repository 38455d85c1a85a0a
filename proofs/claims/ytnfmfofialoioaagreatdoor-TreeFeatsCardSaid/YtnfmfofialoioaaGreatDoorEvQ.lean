/-
  A region whose order is drawn: the run in one order, and the theorem.
-/
import Derived.Test.YtnfmfofialoioaaGreatDoorEvP
namespace Go.Ev
open Go Go.RowKit

variable {P : Program} {oo : OpO} {all : Array Oper} {its : List It} {w0 : W0} {st0 : St} {φ0 : Pm}

theorem put_other {f : Fr} {dst : Option Tmp} {v : Value} {t : Tmp} (h : dst ≠ some t) : (f.put dst v).tmps.get t = f.tmps.get t := by rw [Fr.get_put, if_neg (fun e => h e.1)]
theorem Holds.put {f : Fr} {o : Oper} {u : Value} (h : Holds f o u) {dst : Option Tmp} (hd : ∀ d, o.dst = some d → dst ≠ some d) (v : Value) : Holds (f.put dst v) o u := fun d e => by
  obtain ⟨h1, h2⟩ := h d e
  exact ⟨by rw [Fr.put_size]; exact h1, by rw [put_other (hd d e)]; exact h2⟩
theorem Holds.own {f : Fr} {o : Oper} {v : Value} (h : dstOk f o = true) : Holds (f.put o.dst v) o v := fun d e => by
  unfold dstOk at h
  rw [e] at h
  have hlt : d < f.size := Nat.le_of_ble_eq_true h
  exact ⟨by rw [Fr.put_size]; exact hlt, by rw [Fr.get_put, if_pos ⟨e, hlt⟩]⟩

/-- What is told has all told that comes ahead of it. -/
theorem told_ahead {D : Nat} (G : Good all its) (hc : Closed all fun j => Nat.testBit D j = true) {y : It} (hy : y ∈ its) (hyD : Nat.testBit D y.i = true) {j : Nat} (h : Nat.testBit y.m j = true) : Nat.testBit D j = true :=
  (G.ok y hy).mask _ hc (fun e he hb => hc _ _ (G.ok y hy).at' hyD e he hb) j h

/-- Another one is told, or done: those that wait go on waiting. -/
theorem Pend.put {fi f : Fr} {st st' : St} {φ : Pm} {x y : It} {b : Option Nat} (h : Pend P oo all st0 φ fi f st y b) (v : Value) (hd : ∀ d, y.o.dst = some d → x.o.dst ≠ some d)
    (hh : ∀ b ob, st.heap.get b = some ob → st'.heap.get b = some ob) : Pend P oo all st0 φ fi (f.put x.o.dst v) st' y b := by
  cases h with
  | off hw hv => exact .off hw (hv.put hd v)
  | val hw hc u he hv => exact .val hw hc u he (hv.put hd v)
  | rd hw hc h hh' u he hv => exact .rd hw hc h (fun b ob e => hh b ob (hh' b ob e)) u he (hv.put hd v)
  | new hw ob mk bi hb he hv hn h0 hg => exact .new hw ob mk bi hb he (hv.put hd v) hn h0 (hh _ _ hg)

theorem RD.take {D : Nat} {f : Fr} {st : St} {rest : List It} {listed : Array Bool} {φ : Pm} {a : Act} {w : World} {bl : Nat → Option Nat} {fr : Nat → Fr} (G : Good all its) (rd : RD P oo all its w0 st0 φ0 D f st rest listed φ a w bl fr)
    {x : It} {v : Value} {st' : St} {r : List It} (hp : pick P oo all.toList D f st rest = some (x, v, st', r)) : ∃ bl' fr', RD P oo all its w0 st0 φ0 (Nat.lor D (2 ^ x.i)) (f.put x.o.dst v) st' r listed φ a w bl' fr' := by
  obtain ⟨h1, h2, h3, h4⟩ := pick_ok hp
  obtain ⟨hx, hxD, L⟩ := rd.left.less h1
  have hat := (G.ok x hx).at'
  have hpD : ∀ e ∈ x.o.after, Region.binds .any e = true → Nat.testBit D e.on = true := fun e he hb => subB_mem h2 ((G.ok x hx).pred e he hb).2
  have noself : Nat.testBit x.m x.i = false := by
    cases hb : Nat.testBit x.m x.i with
    | false => rfl
    | true => have := subB_mem h2 hb; rw [hxD] at this; cases this
  have hxl : listed.getD x.i false = false := by
    cases e : listed.getD x.i false with
    | false => rfl
    | true => have := rd.lD _ e; rw [hxD] at this; cases this
  have wait : ∀ y, Wait its (Nat.lor D (2 ^ x.i)) listed y → y = x ∨ (Wait its D listed y ∧ y.i ≠ x.i) := fun y hy => by
    obtain ⟨m1, m2, m3⟩ := hy
    rw [testBit_set, Bool.or_eq_true, decide_eq_true_eq] at m2
    by_cases e : y.i = x.i
    · exact .inl (It.inj G m1 hx e)
    · rcases m2 with m2 | m2
      · exact .inr ⟨⟨m1, m2, m3⟩, e⟩
      · exact absurd m2.symm e
  have waitx : Wait its (Nat.lor D (2 ^ x.i)) listed x := ⟨hx, by rw [testBit_set]; simp, hxl⟩
  have waito : ∀ y, Wait its D listed y → Wait its (Nat.lor D (2 ^ x.i)) listed y := fun y hy => ⟨hy.1, by rw [testBit_set, hy.2.1]; rfl, hy.2.2⟩
  have hown : Holds (f.put x.o.dst v) x.o v := Holds.own h3
  have nott : ∀ y, Wait its D listed y → Nat.testBit y.m x.i = false := fun y hy => by
    cases hb : Nat.testBit y.m x.i with
    | false => rfl
    | true => have := told_ahead G rd.dClosed hy.1 hy.2.1 hb; rw [hxD] at this; cases this
  have others : ∀ y, Wait its D listed y → ∀ d, y.o.dst = some d → x.o.dst ≠ some d := fun y hy d hd hd' => by
      have := G.uniq x hx y hy.1 d hd' hd
      rw [this, hy.2.1] at hxD; cases hxD
  have frame : ∀ t u, (∀ y, Wait its (Nat.lor D (2 ^ x.i)) listed y → y.o.dst ≠ some t) → (f.put x.o.dst v).tmps.get t = some u → VR φ u (a.eval (.tmp t)) := fun t u hn hu => by
    rw [put_other (hn x waitx)] at hu
    exact rd.frame t u (fun y hy => hn y (waito y hy)) hu
  have defers : DsR φ (f.put x.o.dst v).defers a.defers := by rw [Fr.put_defers]; exact rd.defers
  have size : a.tmps.size = (f.put x.o.dst v).size := by rw [Fr.put_size]; exact rd.size
  have lD : ∀ j, listed.getD j false = true → Nat.testBit (Nat.lor D (2 ^ x.i)) j = true := fun j hj => by rw [testBit_set, rd.lD j hj]; rfl
  let fr' : Nat → Fr := fun i => if i = x.i then f else fr i
  have frx : fr' x.i = f := by simp [fr']
  have fro : ∀ y : It, y.i ≠ x.i → fr' y.i = fr y.i := fun y hne => by simp [fr', hne]
  have sees : ∀ z, Wait its (Nat.lor D (2 ^ x.i)) listed z → ∀ t ∈ z.o.looksAt all, ∀ u, (fr' z.i).tmps.get t = some u →
      (∀ y, Wait its (Nat.lor D (2 ^ x.i)) listed y → y.o.dst = some t → Nat.testBit z.m y.i = true → (f.put x.o.dst v).tmps.get t = some u) ∧
      ((∀ y, Wait its (Nat.lor D (2 ^ x.i)) listed y → y.o.dst = some t → Nat.testBit z.m y.i = false) → VR φ u (a.eval (.tmp t))) := by
    intro z hz t ht u hu
    rcases wait z hz with rfl | ⟨hz, hne⟩
    · rw [frx] at hu
      refine ⟨fun y hy hd hb => ?_, fun hno => rd.frame t u (fun y hy hd => ?_) hu⟩
      · rcases wait y hy with rfl | ⟨hy, hne⟩
        · rw [noself] at hb; cases hb
        · rw [put_other (others y hy t hd)]; exact hu
      · rcases G.look z hx y hy.1 t hd ht with h5 | h5 | h5
        · have := hno y (waito y hy) hd; rw [h5] at this; cases this
        · have := hy.2.1; rw [h5, hxD] at this; cases this
        · have := told_ahead G rd.dClosed hy.1 hy.2.1 h5; rw [hxD] at this; cases this
    · rw [fro z hne] at hu
      obtain ⟨s1, s2⟩ := rd.sees z hz t ht u hu
      have hnz := nott z hz
      refine ⟨fun y hy hd hb => ?_, fun hno => s2 fun y hy hd => hno y (waito y hy) hd⟩
      rcases wait y hy with rfl | ⟨hy, _⟩
      · rw [hnz] at hb; cases hb
      · rw [put_other (others y hy t hd)]; exact s1 y hy hd hb
  have stab : ∀ z, Wait its (Nat.lor D (2 ^ x.i)) listed z → Stable all its z → ∀ t ∈ z.o.looksAt all, (f.put x.o.dst v).tmps.get t = (fr' z.i).tmps.get t := by
    intro z hz hs t ht
    rcases wait z hz with rfl | ⟨hz, hne⟩
    · rw [frx]
      exact put_other fun e => by have := hs t ht z hx e; rw [noself] at this; cases this
    · have hnz := nott z hz
      rw [fro z hne, put_other fun e => by have := hs t ht x hx e; rw [hnz] at this; cases this]
      exact rd.stab z hz hs t ht
  have same : st' = st → Pend P oo all st0 φ f (f.put x.o.dst v) st x (bl x.i) → ∃ bl' fr', RD P oo all its w0 st0 φ0 (Nat.lor D (2 ^ x.i)) (f.put x.o.dst v) st' r listed φ a w bl' fr' := fun e hpx => by
    subst e
    refine ⟨bl, fr', rd.ops, rd.heap, rd.kept, size, defers, L.restIn, L.restNd, L.restNot, L.restAll, closed_bit hat hpD rd.dClosed, rd.lsize, lD, rd.lClosed, frame, fun y hy => ?_, sees, stab, rd.blInj, rd.blLt⟩
    rcases wait y hy with rfl | ⟨hy, hne⟩
    · rw [frx]; exact hpx
    · rw [fro y hne]; exact (rd.pend y hy).put v (others y hy) fun _ _ h => h
  have made : ∀ (ob : Ob) (mk : Nat → Value), (∀ s, exec1 P oo f.E s x.o = some (.new ob mk)) → awanted all.toList f x.o = some true → v = mk st.next → st' = ⟨st.heap.put st.next (some ob), st.next + 1⟩ →
      ∃ bl' fr', RD P oo all its w0 st0 φ0 (Nat.lor D (2 ^ x.i)) (f.put x.o.dst v) st' r listed φ a w bl' fr' := by
    intro ob mk he hw hvm hst
    subst hst
    subst hvm
    have hown' := hown
    have hab := rd.heap.absent st.next (Nat.le_refl _)
    have hh : ∀ b ob', st.heap.get b = some ob' → (st.heap.put st.next (some ob)).get b = some ob' := fun b ob' hb => by
      rw [Tr.get_put_eq, if_neg (fun e => by subst e; rw [hab] at hb; cases hb)]; exact hb
    refine ⟨fun i => if i = x.i then some st.next else bl i, fr', rd.ops, rd.heap.virt ob, rd.kept.trans ⟨Nat.le_succ _, Le.refl _, fun b hb hn => ⟨hn, ?_⟩⟩, size, defers, L.restIn, L.restNd, L.restNot, L.restAll, closed_bit hat hpD rd.dClosed, rd.lsize, lD, rd.lClosed, frame, fun y hy => ?_, sees, stab, fun i j b hi hj => ?_, fun i b hi => ?_⟩
    · show (st.heap.put st.next (some ob)).get b = _
      rw [Tr.get_put_eq, if_neg (by omega)]
    · rcases wait y hy with rfl | ⟨hy, hne⟩
      · rw [frx]
        refine .new hw ob mk st.next (by simp) he hown' (rd.heap.fresh _ (Nat.le_refl _)) rd.kept.next ?_
        show (st.heap.put st.next (some ob)).get st.next = _
        rw [Tr.get_put_eq, if_pos rfl]
      · simp only [hne, if_false]
        rw [fro y hne]
        exact (rd.pend y hy).put _ (others y hy) hh
    · by_cases e1 : i = x.i
      · by_cases e2 : j = x.i
        · rw [e1, e2]
        · simp only [e1, if_true] at hi
          simp only [e2, if_false] at hj
          cases hi
          exact absurd (rd.blLt _ _ hj) (by omega)
      · simp only [e1, if_false] at hi
        by_cases e2 : j = x.i
        · simp only [e2, if_true] at hj
          cases hj
          exact absurd (rd.blLt _ _ hi) (by omega)
        · simp only [e2, if_false] at hj
          exact rd.blInj _ _ _ hi hj
    · show b < st.next + 1
      by_cases e1 : i = x.i
      · simp only [e1, if_true] at hi; cases hi; omega
      · simp only [e1, if_false] at hi; have := rd.blLt _ _ hi; omega
  unfold quiet at h4
  split at h4
  · rename_i hw
    cases h4
    exact same rfl (.off hw hown)
  · rename_i hw
    split at h4
    · cases h4
    · rename_i hc
      split at h4
      · rename_i u hu
        cases h4
        exact same rfl (.val hw hc _ (fun s => by rw [exec1_any hc]; exact hu) hown)
      · rename_i ob mk hu
        cases h4
        exact made ob mk (fun s => by rw [exec1_any hc]; exact hu) hw rfl rfl
      · cases h4
    · rename_i hc
      split at h4
      · rename_i u hu
        cases h4
        refine same rfl (.rd hw hc _ (fun _ _ h => h) _ (fun n => ?_) hown)
        exact (exec1_read hc).trans hu
      · rename_i ob mk hu
        cases h4
        exact made ob mk (exec1_new hc hu) hw rfl rfl
      · cases h4
  · cases h4

theorem RD.eff {call : CallF} (hcall : CallOk P oo w0 call) {D : Nat} {f : Fr} {st : St} {rest : List It} {listed : Array Bool} {φ : Pm} {a : Act} {w : World} {bl : Nat → Option Nat} {fr : Nat → Fr} (G : Good all its) (rd : RD P oo all its w0 st0 φ0 D f st rest listed φ a w bl fr)
    {e : It} {r : List It} (hp : List.Perm rest (e :: r)) (hw : awanted all.toList f e.o = some true) {u : Out} (hu : evGot P oo call f.E st e.o = some u) (hre : recheck P oo all its (f.put e.o.dst (u.to st).1) (u.to st).2 e D its = true)
    (hr : e.i ∈ Region.ready .any all listed) {Q : Exit → Act → World → Prop} {K : Act → World → Prop}
    (hK : ∀ φ' a' w' fr', RD P oo all its w0 st0 φ0 (Nat.lor D (2 ^ e.i)) (f.put e.o.dst (u.to st).1) (u.to st).2 r (listed.setIfInBounds e.i true) φ' a' w' bl fr' → K a' w') : wpOp P all Q e.i K a w := by
  obtain ⟨hx, hxD, L⟩ := rd.left.less hp
  obtain ⟨hun, o, ho, hpl⟩ := mem_ready.1 hr
  have hat := (G.ok e hx).at'
  rw [hat] at ho
  cases ho
  have hlt : e.i < listed.size := by rw [rd.lsize]; exact (Array.getElem?_eq_some_iff.1 hat).1
  have look := Wait.not_look G rd hx hxD hpl
  unfold wpOp
  simp only [hat]
  rw [awanted_ok2 look hw]
  refine .inl (evGot_wp hcall rd.heap (ER_of look) hu (thn_to rd.heap fun φ' v' w' h1 h2 h3 => ?_))
  have nott : ∀ y, Wait its D listed y → Nat.testBit y.m e.i = false := fun y hy => by
    cases hb : Nat.testBit y.m e.i with
    | false => rfl
    | true => have := told_ahead G rd.dClosed hy.1 hy.2.1 hb; rw [hxD] at this; cases this
  have notl : ∀ y, Wait its D listed y → Nat.testBit e.m y.i = false := fun y hy => by
    cases hb : Nat.testBit e.m y.i with
    | false => rfl
    | true =>
      have := (G.ok e hx).mask _ rd.lClosed hpl y.i hb
      rw [hy.2.2] at this; cases this
  have others : ∀ y, Wait its D listed y → ∀ d, y.o.dst = some d → e.o.dst ≠ some d := fun y hy d hd hd' => by
      have := G.uniq e hx y hy.1 d hd' hd
      rw [this, hy.2.1] at hxD; cases hxD
  have wait : ∀ y, Wait its (Nat.lor D (2 ^ e.i)) (listed.setIfInBounds e.i true) y → Wait its D listed y := fun y hy => by
    obtain ⟨m1, m2, m3⟩ := hy
    have hne : y.i ≠ e.i := fun e' => by rw [e', getD_set_same hlt] at m3; cases m3
    rw [getD_set_ne false (Ne.symm hne)] at m3
    rw [testBit_set, Bool.or_eq_true, decide_eq_true_eq] at m2
    rcases m2 with m2 | m2
    · exact ⟨m1, m2, m3⟩
    · exact absurd m2.symm hne
  have waito : ∀ y, Wait its D listed y → Wait its (Nat.lor D (2 ^ e.i)) (listed.setIfInBounds e.i true) y := fun y hy => by
    have hne : y.i ≠ e.i := fun e' => by have := hy.2.1; rw [e', hxD] at this; cases this
    exact ⟨hy.1, by rw [testBit_set, hy.2.1]; rfl, by rw [getD_set_ne false (Ne.symm hne)]; exact hy.2.2⟩
  have nolook : ∀ z, Wait its D listed z → ∀ t ∈ z.o.looksAt all, e.o.dst ≠ some t := fun z hz t ht hd => by
    rcases G.look z hz.1 e hx t hd ht with h5 | h5 | h5
    · rw [nott z hz] at h5; cases h5
    · have := hz.2.1; rw [← h5, hxD] at this; cases this
    · rw [notl z hz] at h5; cases h5
  have stab : ∀ z, Wait its (Nat.lor D (2 ^ e.i)) (listed.setIfInBounds e.i true) z → Stable all its z → ∀ t ∈ z.o.looksAt all, (f.put e.o.dst (u.to st).1).tmps.get t = (fr z.i).tmps.get t := fun z hz hs t ht => by
    rw [put_other (nolook z (wait z hz) t ht)]; exact rd.stab z (wait z hz) hs t ht
  classical
  let S : Nat → Prop := fun i => ∃ y, Wait its (Nat.lor D (2 ^ e.i)) (listed.setIfInBounds e.i true) y ∧ y.i = i ∧ Stable all its y ∧ cls y.o.op = .read ∧ ∃ h v, ∀ n, exec1 P oo (fr i).E ⟨h, n⟩ y.o = some (.val v)
  let fr' : Nat → Fr := fun i => if S i then f.put e.o.dst (u.to st).1 else fr i
  have sameFr : ∀ z, Wait its (Nat.lor D (2 ^ e.i)) (listed.setIfInBounds e.i true) z → ∀ t ∈ z.o.looksAt all, (fr' z.i).tmps.get t = (fr z.i).tmps.get t := fun z hz t ht => by
    by_cases h : S z.i
    · obtain ⟨y, hy, hyi, hys, _⟩ := h
      have : y = z := It.inj G hy.1 hz.1 hyi
      subst this
      have e2 : fr' y.i = f.put e.o.dst (u.to st).1 := if_pos ⟨y, hy, rfl, hys, by assumption⟩
      rw [e2]
      exact stab y hy hys t ht
    · have e2 : fr' z.i = fr z.i := if_neg h
      rw [e2]
  have anyFr : ∀ z, Wait its (Nat.lor D (2 ^ e.i)) (listed.setIfInBounds e.i true) z → cls z.o.op = .any → fr' z.i = fr z.i := fun z hz hc => if_neg fun ⟨y, hy, hyi, _, hyc, _⟩ => by
    have : y = z := It.inj G hy.1 hz.1 hyi
    subst this
    rw [hc] at hyc; cases hyc
  have newFr : ∀ z, Wait its (Nat.lor D (2 ^ e.i)) (listed.setIfInBounds e.i true) z → ∀ ob mk, (∀ s, exec1 P oo (fr z.i).E s z.o = some (.new ob mk)) → fr' z.i = fr z.i := fun z hz ob mk hn => if_neg fun ⟨y, hy, hyi, _, _, h, v, hv⟩ => by
    have : y = z := It.inj G hy.1 hz.1 hyi
    subst this
    have := hv 0
    rw [hn] at this; cases this
  have readFr : ∀ z, Wait its (Nat.lor D (2 ^ e.i)) (listed.setIfInBounds e.i true) z → Stable all its z → cls z.o.op = .read → (∃ h v, ∀ n, exec1 P oo (fr z.i).E ⟨h, n⟩ z.o = some (.val v)) → fr' z.i = f.put e.o.dst (u.to st).1 := fun z hz hs hc hv => if_pos ⟨z, hz, rfl, hs, hc, hv⟩
  refine hK φ' _ w' fr' ⟨rd.ops, h1, rd.kept.trans h2, ?_, ?_, L.restIn, L.restNd, L.restNot, L.restAll, closed_bit hat (fun x hx' hb => rd.lD _ (hpl x hx' hb)) rd.dClosed, by simpa using rd.lsize, fun j hj => ?_, closed_set hat hpl rd.lClosed, fun t q hn hq => ?_, fun y hy => ?_, fun z hz t ht q hq => ⟨fun y hy hd hb => ?_, fun hno => ?_⟩, fun z hz hs t ht => by rw [sameFr z hz t ht]; exact stab z hz hs t ht, rd.blInj, fun i b hi => Nat.lt_of_lt_of_le (rd.blLt i b hi) h2.next⟩
  · rw [Fr.put_size, ← rd.size]; cases e.o.dst <;> simp [Act.put]
  · rw [Fr.put_defers]; have := rd.defers.mono h2.le; cases e.o.dst <;> exact this
  · rw [testBit_set]
    by_cases e' : j = e.i
    · simp [e']
    · rw [getD_set_ne false (Ne.symm e')] at hj; rw [rd.lD j hj]; rfl
  · rw [eval_put]
    rw [Fr.get_put] at hq
    rw [rd.size]
    split at hq
    · rename_i hc; rw [if_pos hc]; cases hq; exact h3
    · rename_i hc; rw [if_neg hc]
      exact (rd.frame t q (fun y hy => hn y (waito y hy)) hq).mono h2.le
  · have hy0 := wait y hy
    have o2 := others y hy0
    cases rd.pend y hy0 with
    | off hw hv => exact .off (by rw [awanted_congr (sameFr y hy)]; exact hw) (hv.put o2 _)
    | val hw hc q he hv => exact .val (by rw [anyFr y hy hc]; exact hw) hc q (by rw [anyFr y hy hc]; exact he) (hv.put o2 _)
    | rd hw hc h hh q he hv =>
      obtain ⟨hst, hrr⟩ := recheck_ok hre y hy0.1 hc hy0.2.1 (notl y hy0)
      have key := stab y hy hst
      have hw' : awanted all.toList (f.put e.o.dst (u.to st).1) y.o = some true := by rw [awanted_congr key]; exact hw
      unfold reread at hrr
      rw [hw'] at hrr
      simp only at hrr
      split at hrr
      · rename_i q2 hq2
        refine .rd (by rw [readFr y hy hst hc ⟨h, q, he⟩]; exact hw') hc (u.to st).2.heap (fun _ _ h => h) q2 (fun n => by rw [readFr y hy hst hc ⟨h, q, he⟩, exec1_read (m := (u.to st).2.next) hc]; exact hq2) fun d hd => ?_
        obtain ⟨k1, k2⟩ := hv.put (dst := e.o.dst) o2 (u.to st).1 d hd
        refine ⟨k1, ?_⟩
        rw [hd] at hrr
        simp only [k2] at hrr
        rw [k2, veq_eq hrr]
      · cases hrr
    | new hw ob mk bi hb he hv hn h0 hg =>
      obtain ⟨n1, n2⟩ := h2.none bi (rd.blLt _ _ hb) hn
      exact .new (by rw [newFr y hy ob mk he]; exact hw) ob mk bi hb (by rw [newFr y hy ob mk he]; exact he) (hv.put o2 _) n1 h0 (by rw [n2]; exact hg)
  · have hz0 := wait z hz
    have hy0 := wait y hy
    rw [put_other (others y hy0 t hd)]
    rw [sameFr z hz t ht] at hq
    exact (rd.sees z hz0 t ht q hq).1 y hy0 hd hb
  · have hz0 := wait z hz
    rw [eval_put, if_neg (fun h => nolook z hz0 t ht h.1)]
    rw [sameFr z hz t ht] at hq
    exact ((rd.sees z hz0 t ht q hq).2 fun y hy hd => hno y (waito y hy) hd).mono h2.le
end Go.Ev
