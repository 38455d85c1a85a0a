/-
  A region whose order is drawn: what the run in one order gives holds for all.
-/
import Derived.Test.YtnfmfofialoioaaGreatDoorEvQ
namespace Go.Ev
open Go Go.RowKit

variable {P : Program} {oo : OpO} {all : Array Oper} {its : List It} {w0 : W0} {st0 : St} {φ0 : Pm}

def unl (listed : Array Bool) : Nat := listed.toList.count false
theorem unl_set {listed : Array Bool} {i : Nat} (h : listed.getD i true = false) : unl (listed.setIfInBounds i true) + 1 = unl listed := by
  have hi : i < listed.size := by
    rcases Nat.lt_or_ge i listed.size with h' | h'
    · exact h'
    · simp [Array.getD_eq_getD_getElem?, Array.getElem?_eq_none h'] at h
  have hv : listed.toList[i] = false := by
    simp [Array.getD_eq_getD_getElem?, hi] at h
    simpa using h
  unfold unl
  rw [Array.toList_setIfInBounds, List.count_set (by simpa using hi)]
  have hp : 0 < listed.toList.count false := List.count_pos_iff.2 (by rw [← hv]; exact List.getElem_mem _)
  simp only [hv, beq_self_eq_true, if_true]
  have e : ((true == false) = true) = False := by simp
  simp only [e, if_false]
  omega
theorem ready_nil {listed : Array Bool} (G : Good all its) (hs : listed.size = all.size) (h : Region.ready .any all listed = []) : ∀ j, j < all.size → listed.getD j false = true := by
  intro j
  induction j using Nat.strongRecOn with
  | _ j ih =>
    intro hj
    cases e : listed.getD j false with
    | true => rfl
    | false =>
      obtain ⟨x, hx, rfl⟩ := G.full j hj
      have hm : x.i ∈ Region.ready .any all listed := mem_ready.2 ⟨by
          have hl : x.i < listed.size := by rw [hs]; exact hj
          simp [Array.getD_eq_getD_getElem?, hl] at e ⊢
          exact e, x.o, (G.ok x hx).at', fun e he hb => by
          have := (G.ok x hx).pred e he hb
          exact ih e.on this.1 (Nat.lt_trans this.1 hj)⟩
      rw [h] at hm
      cases hm
theorem ready_none {listed : Array Bool} (h : unl listed = 0) : Region.ready .any all listed = [] := by
  rw [List.eq_nil_iff_forall_not_mem]
  intro i hi
  obtain ⟨h1, _⟩ := mem_ready.1 hi
  have := unl_set h1
  omega

theorem go_wp {call : CallF} (hcall : CallOk P oo w0 call) (G : Good all its) {Q : Exit → Act → World → Prop} {f' : Fr} {st' : St}
    (hQ : ∀ φ' a' w', HR w0 φ' st' w' → Kept st0 φ0 st' φ' → FrR φ' f' a' → Q .normal a' w') :
    ∀ (n D : Nat) (f : Fr) (st : St) (rest : List It), go P oo call all all.toList its n D f st rest = some (f', st') →
    ∀ (fuel : Nat) (listed : Array Bool) (φ : Pm) (a : Act) (w : World) (bl : Nat → Option Nat) (fr : Nat → Fr), RD P oo all its w0 st0 φ0 D f st rest listed φ a w bl fr → unl listed ≤ fuel → wpAny P .any all Q fuel listed a w := by
  intro n
  induction n with
  | zero => intro D f st rest h; cases h
  | succ n ih =>
    intro D f st rest h
    simp only [go] at h
    split at h
    · rename_i x v st1 r hp
      intro fuel listed φ a w bl fr rd hu
      obtain ⟨bl', fr', rd'⟩ := rd.take G hp
      exact ih _ _ _ _ h fuel listed φ a w bl' fr' rd' hu
    · split at h
      · -- all are told
        cases h
        intro fuel
        have fin : ∀ (listed : Array Bool) (φ : Pm) (a : Act) (w : World) (bl : Nat → Option Nat) (fr : Nat → Fr), RD P oo all its w0 st0 φ0 D f' st' [] listed φ a w bl fr → Region.ready .any all listed = [] → Q .normal a w := by
          intro listed φ a w bl fr rd hr
          have hall := ready_nil G rd.lsize hr
          refine hQ φ a w rd.heap rd.kept ⟨rd.size, fun t v hv => rd.frame t v (fun x hx _ => ?_) hv, rd.defers⟩
          have := hall x.i (by have := (G.ok x hx.1).at'; exact (Array.getElem?_eq_some_iff.1 this).1)
          rw [hx.2.2] at this; cases this
        induction fuel with
        | zero => intro listed φ a w bl fr rd hu; have hr := ready_none (all := all) (Nat.le_zero.1 hu); exact ⟨hr, fin listed φ a w bl fr rd hr⟩
        | succ fuel ih2 =>
          intro listed φ a w bl fr rd hu
          refine ⟨fin listed φ a w bl fr rd, fun i hi => ?_⟩
          obtain ⟨h1, o, ho, h2⟩ := mem_ready.1 hi
          obtain ⟨x, hx, rfl⟩ := G.full i (Array.getElem?_eq_some_iff.1 ho).1
          have hD : Nat.testBit D x.i = true := by
            rcases rd.restAll x.i (Array.getElem?_eq_some_iff.1 ho).1 with h | ⟨y, hy, _⟩
            · exact h
            · cases hy
          refine rd.step G hx hD hi fun φ' a' w' rd' => ih2 _ φ' a' w' bl fr rd' ?_
          have := unl_set h1
          omega
      · rename_i y ys hnone
        split at h
        · rename_i e r ho
          split at h
          · rename_i hw
            split at h
            · rename_i u hu
              split at h
              · rename_i hre
                obtain ⟨hp1, hp2, hp3⟩ := only_ok ho
                intro fuel
                have fin : ∀ (listed : Array Bool) (φ : Pm) (a : Act) (w : World) (bl : Nat → Option Nat) (fr : Nat → Fr), RD P oo all its w0 st0 φ0 D f st (y :: ys) listed φ a w bl fr → Region.ready .any all listed = [] → Q .normal a w := by
                  intro listed φ a w bl fr rd hr
                  have hall := ready_nil G rd.lsize hr
                  have h1 := rd.restNot y (by simp)
                  have := rd.lD y.i (hall y.i (by have := (G.ok y (rd.restIn y (by simp))).at'; exact (Array.getElem?_eq_some_iff.1 this).1))
                  rw [h1] at this; cases this
                induction fuel with
                | zero => intro listed φ a w bl fr rd hu; have hr := ready_none (all := all) (Nat.le_zero.1 hu); exact ⟨hr, fin listed φ a w bl fr rd hr⟩
                | succ fuel ih2 =>
                  intro listed φ a w bl fr rd hun
                  refine ⟨fin listed φ a w bl fr rd, fun i hi => ?_⟩
                  obtain ⟨h1, o, ho, h2⟩ := mem_ready.1 hi
                  obtain ⟨x, hx, rfl⟩ := G.full i (Array.getElem?_eq_some_iff.1 ho).1
                  have hless := unl_set h1
                  cases hD : Nat.testBit D x.i with
                  | true => exact rd.step G hx hD hi fun φ' a' w' rd' => ih2 _ φ' a' w' bl fr rd' (by omega)
                  | false =>
                    have hxr : x ∈ y :: ys := by
                      rcases rd.restAll x.i (Array.getElem?_eq_some_iff.1 ho).1 with h | ⟨z, hz, hzi⟩
                      · rw [hD] at h; cases h
                      · rw [← It.inj G (rd.restIn z hz) hx hzi]; exact hz
                    have hat := (G.ok x hx).at'
                    rw [hat] at ho
                    cases ho
                    have hsub : subB x.m D = true := subB_of fun j hj => (G.ok x hx).mask _ rd.dClosed (fun e he hb => rd.lD _ (h2 e he hb)) j hj
                    have hxe : x = e := by
                      rcases List.mem_cons.1 (hp1.mem_iff.1 hxr) with h | h
                      · exact h
                      · have := hp3 x h; rw [hsub] at this; cases this
                    subst hxe
                    refine rd.eff hcall G hp1 hw hu hre hi fun φ' a' w' fr' rd' => ?_
                    exact ih _ _ _ _ h fuel _ φ' a' w' bl fr' rd' (by omega)
              · cases h
            · cases h
          · cases h
        · cases h

theorem draw_wp {call : CallF} (hcall : CallOk P oo w0 call) (hm : P.follows .mixedOrders = true) {f f' : Fr} {st st' : St} (h : draw P oo call all f st = some (f', st')) {φ : Pm} {a : Act} {w : World}
    (H : HR w0 φ st w) (F : FrR φ f a) {id : Nat} {Q : Exit → Act → World → Prop}
    (hQ : ∀ φ' a' w', HR w0 φ' st' w' → Kept st φ st' φ' → FrR φ' f' a' → Q .normal a' w') : (Code.region id all true).wp P Q a w := by
  unfold draw at h
  split at h
  · rename_i its hits
    have G := regOf_good hits
    refine wp_region_any hm ?_
    refine go_wp (w0 := w0) (st0 := st) (φ0 := φ) hcall G hQ _ _ _ _ _ h all.size _ φ a _ (fun _ => none) (fun _ => f) ⟨hcall.1, H.same (Same.drew w), Kept.refl _ _, F.size, F.defers, fun x hx => hx, G.nd, fun x _ => Nat.zero_testBit _, fun j hj => .inr (G.full j hj), fun j oj _ hl => ?_, by simp, fun j hj => ?_, fun j oj _ hl => ?_, fun t v _ hv => F.tmps t v hv, fun x hx => ?_, fun x hx => ?_, fun x hx => ?_, fun i j b hb => (nomatch hb), fun i b hb => (nomatch hb)⟩ ?_
    · have hl : Nat.testBit 0 j = true := hl
      rw [Nat.zero_testBit] at hl; cases hl
    · exfalso
      simp only [Array.getD_eq_getD_getElem?, Array.getElem?_replicate] at hj
      split at hj <;> cases hj
    · exfalso
      simp only [Array.getD_eq_getD_getElem?, Array.getElem?_replicate] at hl
      split at hl <;> cases hl
    · have := hx.2.1; rw [Nat.zero_testBit] at this; cases this
    · have := hx.2.1; rw [Nat.zero_testBit] at this; cases this
    · have := hx.2.1; rw [Nat.zero_testBit] at this; cases this
    · unfold unl; simp
  · cases h
end Go.Ev
