/-
  A region whose order is drawn: what the run in one order gives holds for all.
-/
/-
  Code and calls, told plainly; and that the model's run is the same.
-/
/-
  What single operations give on values that are named.
-/
import Derived.Test.YtjhlodbhchdkbaaGreatDoorEvM6
import Derived.LoopN
import Derived.Scope
import Derived.Recover
import Derived.Laws.StructEq
import Derived.Laws.BitsLemmas
namespace Go.Ev
open Go Go.RowKit

variable {P : Program} {oo : OpO} {all : Array Oper} {its : List It} {w0 : W0} {st0 : St} {φ0 : Pm}

def unl (listed : Array Bool) : Nat := listed.toList.count false
theorem unl_set {listed : Array Bool} {i : Nat} (h : listed.getD i true = false) : unl (listed.setIfInBounds i true) + 1 = unl listed := by
  have hi : i < listed.size := by
    rcases Nat.lt_or_ge i listed.size with h' | h'
    · exact h'
    · simp [Array.getD_eq_getD_getElem?, Array.getElem?_eq_none h'] at h
  have hv : listed.toList[i] = false := by
    simp [Array.getD_eq_getD_getElem?, hi] at h
    simpa using h
  unfold unl
  rw [Array.toList_setIfInBounds, List.count_set (by simpa using hi)]
  have hp : 0 < listed.toList.count false := List.count_pos_iff.2 (by rw [← hv]; exact List.getElem_mem _)
  simp only [hv, beq_self_eq_true, if_true]
  have e : ((true == false) = true) = False := by simp
  simp only [e, if_false]
  omega
theorem ready_nil {listed : Array Bool} (G : Good all its) (hs : listed.size = all.size) (h : Region.ready .any all listed = []) : ∀ j, j < all.size → listed.getD j false = true := by
  intro j
  induction j using Nat.strongRecOn with
  | _ j ih =>
    intro hj
    cases e : listed.getD j false with
    | true => rfl
    | false =>
      obtain ⟨x, hx, rfl⟩ := G.full j hj
      have hm : x.i ∈ Region.ready .any all listed := mem_ready.2 ⟨by
          have hl : x.i < listed.size := by rw [hs]; exact hj
          simp [Array.getD_eq_getD_getElem?, hl] at e ⊢
          exact e, x.o, (G.ok x hx).at', fun e he hb => by
          have := (G.ok x hx).pred e he hb
          exact ih e.on this.1 (Nat.lt_trans this.1 hj)⟩
      rw [h] at hm
      cases hm
theorem ready_none {listed : Array Bool} (h : unl listed = 0) : Region.ready .any all listed = [] := by
  rw [List.eq_nil_iff_forall_not_mem]
  intro i hi
  obtain ⟨h1, _⟩ := mem_ready.1 hi
  have := unl_set h1
  omega

theorem go_wp {call : CallF} (hcall : CallOk P oo w0 call) (G : Good all its) {Q : Exit → Act → World → Prop} {f' : Fr} {st' : St}
    (hQ : ∀ φ' a' w', HR w0 φ' st' w' → Kept st0 φ0 st' φ' → FrR φ' f' a' → Q .normal a' w') :
    ∀ (n D : Nat) (f : Fr) (st : St) (rest : List It), go P oo call all all.toList its n D f st rest = some (f', st') →
    ∀ (fuel : Nat) (listed : Array Bool) (φ : Pm) (a : Act) (w : World) (bl : Nat → Option Nat) (fr : Nat → Fr), RD P oo all its w0 st0 φ0 D f st rest listed φ a w bl fr → unl listed ≤ fuel → wpAny P .any all Q fuel listed a w := by
  intro n
  induction n with
  | zero => intro D f st rest h; cases h
  | succ n ih =>
    intro D f st rest h
    simp only [go] at h
    split at h
    · rename_i x v st1 r hp
      intro fuel listed φ a w bl fr rd hu
      obtain ⟨bl', fr', rd'⟩ := rd.take G hp
      exact ih _ _ _ _ h fuel listed φ a w bl' fr' rd' hu
    · split at h
      · -- all are told
        cases h
        intro fuel
        have fin : ∀ (listed : Array Bool) (φ : Pm) (a : Act) (w : World) (bl : Nat → Option Nat) (fr : Nat → Fr), RD P oo all its w0 st0 φ0 D f' st' [] listed φ a w bl fr → Region.ready .any all listed = [] → Q .normal a w := by
          intro listed φ a w bl fr rd hr
          have hall := ready_nil G rd.lsize hr
          refine hQ φ a w rd.heap rd.kept ⟨rd.size, fun t v hv => rd.frame t v (fun x hx _ => ?_) hv, rd.defers⟩
          have := hall x.i (by have := (G.ok x hx.1).at'; exact (Array.getElem?_eq_some_iff.1 this).1)
          rw [hx.2.2] at this; cases this
        induction fuel with
        | zero => intro listed φ a w bl fr rd hu; have hr := ready_none (all := all) (Nat.le_zero.1 hu); exact ⟨hr, fin listed φ a w bl fr rd hr⟩
        | succ fuel ih2 =>
          intro listed φ a w bl fr rd hu
          refine ⟨fin listed φ a w bl fr rd, fun i hi => ?_⟩
          obtain ⟨h1, o, ho, h2⟩ := mem_ready.1 hi
          obtain ⟨x, hx, rfl⟩ := G.full i (Array.getElem?_eq_some_iff.1 ho).1
          have hD : Nat.testBit D x.i = true := by
            rcases rd.restAll x.i (Array.getElem?_eq_some_iff.1 ho).1 with h | ⟨y, hy, _⟩
            · exact h
            · cases hy
          refine rd.step G hx hD hi fun φ' a' w' rd' => ih2 _ φ' a' w' bl fr rd' ?_
          have := unl_set h1
          omega
      · rename_i y ys hnone
        split at h
        · rename_i e r ho
          split at h
          · rename_i hw
            split at h
            · rename_i v1 st1 hu
              split at h
              · rename_i hre
                obtain ⟨hp1, hp2, hp3⟩ := only_ok ho
                intro fuel
                have fin : ∀ (listed : Array Bool) (φ : Pm) (a : Act) (w : World) (bl : Nat → Option Nat) (fr : Nat → Fr), RD P oo all its w0 st0 φ0 D f st (y :: ys) listed φ a w bl fr → Region.ready .any all listed = [] → Q .normal a w := by
                  intro listed φ a w bl fr rd hr
                  have hall := ready_nil G rd.lsize hr
                  have h1 := rd.restNot y (by simp)
                  have := rd.lD y.i (hall y.i (by have := (G.ok y (rd.restIn y (by simp))).at'; exact (Array.getElem?_eq_some_iff.1 this).1))
                  rw [h1] at this; cases this
                induction fuel with
                | zero => intro listed φ a w bl fr rd hu; have hr := ready_none (all := all) (Nat.le_zero.1 hu); exact ⟨hr, fin listed φ a w bl fr rd hr⟩
                | succ fuel ih2 =>
                  intro listed φ a w bl fr rd hun
                  refine ⟨fin listed φ a w bl fr rd, fun i hi => ?_⟩
                  obtain ⟨h1, o, ho, h2⟩ := mem_ready.1 hi
                  obtain ⟨x, hx, rfl⟩ := G.full i (Array.getElem?_eq_some_iff.1 ho).1
                  have hless := unl_set h1
                  cases hD : Nat.testBit D x.i with
                  | true => exact rd.step G hx hD hi fun φ' a' w' rd' => ih2 _ φ' a' w' bl fr rd' (by omega)
                  | false =>
                    have hxr : x ∈ y :: ys := by
                      rcases rd.restAll x.i (Array.getElem?_eq_some_iff.1 ho).1 with h | ⟨z, hz, hzi⟩
                      · rw [hD] at h; cases h
                      · rw [← It.inj G (rd.restIn z hz) hx hzi]; exact hz
                    have hat := (G.ok x hx).at'
                    rw [hat] at ho
                    cases ho
                    have hsub : subB x.m D = true := subB_of fun j hj => (G.ok x hx).mask _ rd.dClosed (fun e he hb => rd.lD _ (h2 e he hb)) j hj
                    have hxe : x = e := by
                      rcases List.mem_cons.1 (hp1.mem_iff.1 hxr) with h | h
                      · exact h
                      · have := hp3 x h; rw [hsub] at this; cases this
                    subst hxe
                    refine rd.eff hcall G hp1 hw hu hre hi fun φ' a' w' fr' rd' => ?_
                    exact ih _ _ _ _ h fuel _ φ' a' w' bl fr' rd' (by omega)
              · cases h
            · cases h
          · cases h
        · cases h

theorem draw_wp {call : CallF} (hcall : CallOk P oo w0 call) (hm : P.follows .mixedOrders = true) {f f' : Fr} {st st' : St} (h : draw P oo call all f st = some (f', st')) {φ : Pm} {a : Act} {w : World}
    (H : HR w0 φ st w) (F : FrR φ f a) {id : Nat} {Q : Exit → Act → World → Prop}
    (hQ : ∀ φ' a' w', HR w0 φ' st' w' → Kept st φ st' φ' → FrR φ' f' a' → Q .normal a' w') : (Code.region id all true).wp P Q a w := by
  unfold draw at h
  split at h
  · rename_i its hits
    have G := regOf_good hits
    refine wp_region_any hm ?_
    refine go_wp (w0 := w0) (st0 := st) (φ0 := φ) hcall G hQ _ _ _ _ _ h all.size _ φ a _ (fun _ => none) (fun _ => f) ⟨hcall.1, H.same (Same.drew w), Kept.refl _ _, F.size, F.defers, fun x hx => hx, G.nd, fun x _ => Nat.zero_testBit _, fun j hj => .inr (G.full j hj), fun j oj _ hl => ?_, by simp, fun j hj => ?_, fun j oj _ hl => ?_, fun t v _ hv => F.tmps t v hv, fun x hx => ?_, fun x hx => ?_, fun x hx => ?_, fun i j b hb => (nomatch hb), fun i b hb => (nomatch hb)⟩ ?_
    · have hl : Nat.testBit 0 j = true := hl
      rw [Nat.zero_testBit] at hl; cases hl
    · exfalso
      simp only [Array.getD_eq_getD_getElem?, Array.getElem?_replicate] at hj
      split at hj <;> cases hj
    · exfalso
      simp only [Array.getD_eq_getD_getElem?, Array.getElem?_replicate] at hl
      split at hl <;> cases hl
    · have := hx.2.1; rw [Nat.zero_testBit] at this; cases this
    · have := hx.2.1; rw [Nat.zero_testBit] at this; cases this
    · have := hx.2.1; rw [Nat.zero_testBit] at this; cases this
    · unfold unl; simp
  · cases h
end Go.Ev

namespace Go.Ev
open Go Go.RowKit

inductive Ex where
  | nrm
  | exit (id : Nat)
  | ret
def Ex.to : Ex → Exit
  | .nrm => .normal
  | .exit i => .exit i
  | .ret => .ret
abbrev Res := Option (Ex × Fr × St)
def loopN (body : Fr → St → Res) : Nat → Fr → St → Res
  | 0, _, _ => none
  | n + 1, f, st => match body f st with
    | some (.nrm, f', st') => loopN body n f' st'
    | some (.exit i, f', st') => some (.exit i, f', st')
    | some (.ret, f', st') => some (.ret, f', st')
    | none => none
def evReg (P : Program) (oo : OpO) (call : CallF) (ops : Array Oper) (d : Bool) (f : Fr) (st : St) : Option (Fr × St) := match d with
  | true => draw P oo call ops f st
  | false => evOps P oo call ops.toList ops.toList f st
def evC (P : Program) (oo : OpO) (call : CallF) (N : Nat) : Code → Fr → St → Res
  | .skip, f, st => some (.nrm, f, st)
  | .region _ ops d, f, st => match evReg P oo call ops d f st with
    | some (f', st') => some (.nrm, f', st')
    | none => none
  | .seq a b, f, st => match evC P oo call N a f st with
    | some (.nrm, f', st') => evC P oo call N b f' st'
    | some (.exit i, f', st') => some (.exit i, f', st')
    | some (.ret, f', st') => some (.ret, f', st')
    | none => none
  | .cond c x y, f, st => match f.E c with
    | some (.bool true) => evC P oo call N x f st
    | some (.bool false) => evC P oo call N y f st
    | _ => none
  | .block id c, f, st => match evC P oo call N c f st with
    | some (.nrm, f', st') => some (.nrm, f', st')
    | some (.exit i, f', st') => if Nat.beq i id then some (.nrm, f', st') else some (.exit i, f', st')
    | some (.ret, f', st') => some (.ret, f', st')
    | none => none
  | .loop c, f, st => loopN (evC P oo call N c) N f st
  | .exit id, f, st => some (.exit id, f, st)
  | .scope c, f, st => evC P oo call N c f st
  | .label _, f, st => some (.nrm, f, st)
  | .ret, f, st => some (.ret, f, st)
  | _, _, _ => none

theorem evReg_wp {P : Program} {oo : OpO} (hm : P.follows .mixedOrders = true) {call : CallF} {w0 : W0} (hcall : CallOk P oo w0 call) {id : Nat} {ops : Array Oper} {d : Bool} {f f' : Fr} {st st' : St} (h : evReg P oo call ops d f st = some (f', st'))
    {φ : Pm} {a : Act} {w : World} (H : HR w0 φ st w) (F : FrR φ f a) {Q : Exit → Act → World → Prop}
    (hQ : ∀ φ' a' w', HR w0 φ' st' w' → Kept st φ st' φ' → FrR φ' f' a' → Q .normal a' w') : (Code.region id ops d).wp P Q a w := by
  cases d with
  | true => exact draw_wp hcall hm h H F hQ
  | false =>
    refine wp_region ?_
    have e := wpOps_eq_wpList (P := P) (ops := ops) (Q := Q) ops.toList 0 (fun j => by simp)
    rw [Array.length_toList, ← List.range_eq_range'] at e
    rw [e]
    exact evOps_wp hcall _ _ _ _ _ φ a w h H F hQ

/-- What holds where a run of the code comes to. -/
def Ends (w0 : W0) (st : St) (φ : Pm) (e : Ex) (f' : Fr) (st' : St) (Q : Exit → Act → World → Prop) : Prop :=
  ∀ φ' a' w', HR w0 φ' st' w' → Kept st φ st' φ' → FrR φ' f' a' → Q e.to a' w'
def Runs (P : Program) (w0 : W0) (c : Code) (ev : Fr → St → Res) : Prop := ∀ f st e f' st', ev f st = some (e, f', st') → ∀ φ a w, HR w0 φ st w → FrR φ f a → ∀ Q, Ends w0 st φ e f' st' Q → c.wp P Q a w
theorem loopN_wp {P : Program} {w0 : W0} {c : Code} {ev : Fr → St → Res} (hc : Runs P w0 c ev) : ∀ (n : Nat) (f : Fr) (st : St) (e : Ex) (f' : Fr) (st' : St), loopN ev n f st = some (e, f', st') →
    ∀ φ a w, HR w0 φ st w → FrR φ f a → ∀ Q, Ends w0 st φ e f' st' Q → Code.rounds P c Q n a w
  | 0, _, _, _, _, _, h => by cases h
  | n + 1, f, st, e, f', st', h => by
    intro φ a w H F Q hQ
    simp only [loopN] at h
    rw [rounds_succ]
    split at h
    · rename_i f1 st1 h1
      refine hc _ _ _ _ _ h1 φ a w H F _ fun φ1 a1 w1 H1 K1 F1 => ?_
      exact loopN_wp hc n _ _ _ _ _ h φ1 a1 w1 H1 F1 Q fun φ2 a2 w2 H2 K2 F2 => hQ φ2 a2 w2 H2 (K1.trans K2) F2
    · rename_i i f1 st1 h1
      cases h
      exact hc _ _ _ _ _ h1 φ a w H F _ hQ
    · rename_i f1 st1 h1
      cases h
      exact hc _ _ _ _ _ h1 φ a w H F _ hQ
    · cases h

theorem evC_wp {P : Program} {oo : OpO} (hm : P.follows .mixedOrders = true) {call : CallF} {w0 : W0} (hcall : CallOk P oo w0 call) (N : Nat) : ∀ c, Runs P w0 c (evC P oo call N c) := by
  intro c
  induction c with
  | skip => intro f st e f' st' h φ a w H F Q hQ; cases h; exact wp_skip (hQ φ a w H (Kept.refl _ _) F)
  | label l => intro f st e f' st' h φ a w H F Q hQ; cases h; exact wp_label (hQ φ a w H (Kept.refl _ _) F)
  | exit id => intro f st e f' st' h φ a w H F Q hQ; cases h; exact wp_exit (hQ φ a w H (Kept.refl _ _) F)
  | ret => intro f st e f' st' h φ a w H F Q hQ; cases h; exact wp_ret (hQ φ a w H (Kept.refl _ _) F)
  | goto l => intro f st e f' st' h; cases h
  | refuse y => intro f st e f' st' h; cases h
  | rangeFunc f p x y _ _ => intro f st e f' st' h; cases h
  | region id ops d =>
    intro f st e f' st' h φ a w H F Q hQ
    simp only [evC] at h
    split at h
    · rename_i f1 st1 h1
      cases h
      exact evReg_wp hm hcall h1 H F hQ
    · cases h
  | seq x y ihx ihy =>
    intro f st e f' st' h φ a w H F Q hQ
    simp only [evC] at h
    refine wp_seq ?_
    split at h
    · rename_i f1 st1 h1
      refine ihx _ _ _ _ _ h1 φ a w H F _ fun φ1 a1 w1 H1 K1 F1 => ?_
      exact ihy _ _ _ _ _ h φ1 a1 w1 H1 F1 Q fun φ2 a2 w2 H2 K2 F2 => hQ φ2 a2 w2 H2 (K1.trans K2) F2
    · rename_i i f1 st1 h1
      cases h
      exact ihx _ _ _ _ _ h1 φ a w H F _ hQ
    · rename_i f1 st1 h1
      cases h
      exact ihx _ _ _ _ _ h1 φ a w H F _ hQ
    · cases h
  | cond c x y ihx ihy =>
    intro f st e f' st' h φ a w H F Q hQ
    simp only [evC] at h
    split at h
    · rename_i hb
      have := F.E hb
      refine wp_cond_true ?_ (ihx _ _ _ _ _ h φ a w H F Q hQ)
      generalize a.eval c = v at this
      cases this; rfl
    · rename_i hb
      have := F.E hb
      refine wp_cond_false ?_ (ihy _ _ _ _ _ h φ a w H F Q hQ)
      generalize a.eval c = v at this
      cases this; rfl
    · cases h
  | block id c ih =>
    intro f st e f' st' h φ a w H F Q hQ
    simp only [evC] at h
    refine wp_block ?_
    split at h
    · rename_i f1 st1 h1
      cases h
      exact ih _ _ _ _ _ h1 φ a w H F _ hQ
    · rename_i i f1 st1 h1
      refine ih _ _ _ _ _ h1 φ a w H F _ ?_
      split at h
      · rename_i hi
        cases h
        intro φ1 a1 w1 H1 K1 F1
        simp only [Ex.to, Exit.inBlock, Nat.eq_of_beq_eq_true hi, if_true]
        exact hQ φ1 a1 w1 H1 K1 F1
      · rename_i hi
        cases h
        intro φ1 a1 w1 H1 K1 F1
        have hne : ¬ i = id := fun e => hi (by rw [e]; exact Nat.beq_refl id)
        simp only [Ex.to, Exit.inBlock, hne, if_false]
        exact hQ φ1 a1 w1 H1 K1 F1
    · rename_i f1 st1 h1
      cases h
      exact ih _ _ _ _ _ h1 φ a w H F _ hQ
    · cases h
  | loop c ih =>
    intro f st e f' st' h φ a w H F Q hQ
    exact wp_loop_rounds N (loopN_wp ih N _ _ _ _ _ h φ a w H F Q hQ)
  | scope c ih =>
    intro f st e f' st' h φ a w H F Q hQ
    refine wp_scope_straight (ih _ _ _ _ _ h φ a w H F _ fun φ1 a1 w1 H1 K1 F1 => ?_)
    have := hQ φ1 a1 w1 H1 K1 F1
    cases e <;> exact this

/-! ### results -/
def ares (P : Program) (st : St) (f : Fr) : List ResultVar → Option (List Value)
  | [] => some []
  | .tmp t :: rs => match f.tmps.get t with
    | some v => match ares P st f rs with
      | some vs => some (v :: vs)
      | none => none
    | none => none
  | .cell x t :: rs => match f.tmps.get x with
    | some v => match aload P st t v with
      | some u => match ares P st f rs with
        | some vs => some (u :: vs)
        | none => none
      | none => none
    | none => none
def ares1 : List Value → Value
  | [v] => v
  | vs => .tuple ⟨vs⟩
theorem ares_ok {P : Program} {w0 : W0} {w : World} {φ : Pm} {st : St} (H : HR w0 φ st w) {f : Fr} {a : Act} (F : FrR φ f a) : ∀ (rs : List ResultVar) (vs : List Value), ares P st f rs = some vs →
    ∃ vs', (rs.mapM fun | ResultVar.tmp t => (pure (a.tmps.getD t undef) : Sem Value) | ResultVar.cell x t => do loadVar t (← asAddr (a.tmps.getD x undef))).run P w = .ok vs' w ∧ LR φ vs vs'
  | [], vs, h => by cases h; exact ⟨[], by simp, LR.nil⟩
  | .tmp t :: rs, vs, h => by
    simp only [ares] at h
    split at h
    · rename_i v hv
      split at h
      · rename_i vs1 h1
        cases h
        obtain ⟨vs', k1, k2⟩ := ares_ok H F rs vs1 h1
        refine ⟨a.tmps.getD t undef :: vs', ?_, LR.cons (F.tmps t v hv) k2⟩
        simp only [List.mapM_cons, Sem.run_bind, Sem.run_pure, Result.andThen_ok, k1]
      · cases h
    · cases h
  | .cell x t :: rs, vs, h => by
    simp only [ares] at h
    split at h
    · rename_i v hv
      split at h
      · rename_i u hu
        split at h
        · rename_i vs1 h1
          cases h
          obtain ⟨vs', k1, k2⟩ := ares_ok H F rs vs1 h1
          have hx := F.tmps x v hv
          have e : ∃ b, v = .pointer (some b) := by
            unfold aload at hu
            split at hu
            · exact ⟨_, rfl⟩
            · cases hu
          obtain ⟨b, rfl⟩ := e
          have hx : VR φ (.pointer (some b)) (a.tmps.getD x undef) := hx
          obtain ⟨b', hb, e⟩ : ∃ b', AR φ b b' ∧ a.tmps.getD x undef = .pointer (some b') := by
            generalize a.tmps.getD x undef = y at hx
            cases hx with
            | leaf hl => simp [leafB] at hl
            | ptr ha => exact ⟨_, ha, rfl⟩
          obtain ⟨u', r1, r2⟩ := run_aloadVar H hb hu
          refine ⟨u' :: vs', ?_, LR.cons r2 k2⟩
          have ea : (asAddr (a.tmps.getD x undef)).run P w = .ok b' w := by rw [e]; rfl
          simp only [List.mapM_cons, Sem.run_bind, Sem.run_pure, Result.andThen_ok, ea, r1, k1]
        · cases h
      · cases h
    · cases h
theorem run_results {P : Program} {w : World} {fn : Func} {tmps : Array Value} {vs : List Value}
    (h : (fn.results.toList.mapM fun | ResultVar.tmp t => (pure (tmps.getD t undef) : Sem Value) | ResultVar.cell x t => do loadVar t (← asAddr (tmps.getD x undef))).run P w = .ok vs w) :
    (results fn tmps).run P w = .ok (ares1 vs) w := by
  unfold results
  rw [Array.mapM_eq_mapM_toList]
  simp only [Sem.run_bind, map_eq_pure_bind, Sem.run_pure, bind_assoc, pure_bind]
  refine Eq.trans (congrArg (Result.andThen · _) h) ?_
  simp only [Result.andThen_ok]
  congr 1
  rcases vs with _ | ⟨v, _ | ⟨u, vs⟩⟩ <;> simp [ares1]
theorem LR.ares1 {φ : Pm} {vs vs' : List Value} (h : LR φ vs vs') : VR φ (ares1 vs) (ares1 vs') := by
  rcases vs with _ | ⟨v, _ | ⟨u, vs⟩⟩ <;> rcases vs' with _ | ⟨v', _ | ⟨u', vs'⟩⟩ <;> first | exact VR.tuple_iff.2 h | exact h.cons_inv.1 | (have := h.1; simp at this)

def enterT : List Value → Nat → Tr Value → Tr Value
  | [], _, t => t
  | v :: vs, i, t => enterT vs (i + 1) (t.put i (some v))
theorem enterT_get : ∀ (vs : List Value) (i : Nat) (t : Tr Value) (n : Nat), (enterT vs i t).get n = if i ≤ n ∧ n < i + vs.length then vs[n - i]? else t.get n
  | [], i, t, n => by
    have : ¬ (i ≤ n ∧ n < i + ([] : List Value).length) := by simp
    rw [if_neg this]; rfl
  | v :: vs, i, t, n => by
    simp only [enterT, enterT_get vs, Tr.get_put_eq, List.length_cons]
    by_cases h1 : i + 1 ≤ n ∧ n < i + 1 + vs.length
    · have h2 : i ≤ n ∧ n < i + (vs.length + 1) := by omega
      rw [if_pos h1, if_pos h2, show n - i = (n - (i + 1)) + 1 by omega, List.getElem?_cons_succ]
    · rw [if_neg h1]
      by_cases e : n = i
      · subst e
        rw [if_pos rfl, if_pos (by omega)]
        simp
      · rw [if_neg e, if_neg (by omega)]
def entered (args : List Value) (n : Nat) : Fr := ⟨enterT args 0 .leaf, args.length + (n - args.length), []⟩
theorem entered_ok {φ : Pm} {args args' : List Value} (h : LR φ args args') (n : Nat) : FrR φ (entered args n) { tmps := (⟨args'⟩ : Array Value) ++ Array.replicate (n - (⟨args'⟩ : Array Value).size) undef, defers := [] } := by
  refine ⟨?_, fun t v e => ?_, .nil⟩
  · simp [entered, h.1]
  · simp only [entered, enterT_get, Nat.zero_le, true_and, Nat.zero_add, Nat.sub_zero, Tr.get_leaf] at e
    split at e
    · rename_i ht
      obtain ⟨v', h1, h2⟩ := h.get e
      have ht' : t < args'.length := by rw [← h.1]; exact ht
      have : (Act.eval { tmps := (⟨args'⟩ : Array Value) ++ Array.replicate (n - (⟨args'⟩ : Array Value).size) undef, defers := [] } (.tmp t)) = v' := by
        simp only [Act.eval, Array.getD_eq_getD_getElem?]
        rw [Array.getElem?_append_left (by simpa using ht')]
        simp [h1]
      rw [this]; exact h2
    · cases e

/-! ### what is put off to the end of a call -/
def isRec : Op → Bool | .call c => (match c.callee with | .builtin .recover => true | _ => false) | _ => false
def evOpsS (P : Program) (oo : OpO) (call : CallF) (ops : List Oper) : List Oper → Fr → St → Option (Fr × St)
  | [], f, st => some (f, st)
  | o :: rest, f, st => match awanted ops f o with
    | some false => evOpsS P oo call ops rest (f.put o.dst undef) st
    | some true => match isRec o.op with
      | true => evOpsS P oo call ops rest (f.put o.dst .nilIface) st
      | false => match evTail P f st o with
       | some (v, st') => evOpsS P oo call ops rest (f.put o.dst v) st'
       | none => match evGot P oo call f.E st o with
        | some u => match u.to st with
          | (v, st') => evOpsS P oo call ops rest (f.put o.dst v) st'
        | none => none
    | none => none
theorem run_rec {P : Program} {o : Oper} (h : isRec o.op = true) (ρ : Operand → Value) (w : World) : (execOp ρ o).run P w = .ok .recover w := by
  unfold isRec at h
  split at h
  · rename_i c ho
    split at h
    · rename_i hc
      simp [execOp, ho, resolve, hc, invoke, builtin]
    · cases h
  · cases h
theorem wpOpsS_at {P : Program} {oo : OpO} {call : CallF} {w0 : W0} (hc : CallOk P oo w0 call) {ops : Array Oper} {cs : List Frame} (hcs : recoverD cs = none) {Q : Exit → Act → List Frame → World → Prop} : ∀ (l : List Oper) (k : Nat), (∀ j, l[j]? = ops[k + j]?) → ∀ (f : Fr) (st : St) (f' : Fr) (st' : St) (φ : Pm) (a : Act) (w : World), evOpsS P oo call ops.toList l f st = some (f', st') →
    HR w0 φ st w → FrR φ f a → (∀ φ' a' w', HR w0 φ' st' w' → Kept st φ st' φ' → FrR φ' f' a' → Q .normal a' cs w') → wpOpsS P ops Q (List.range' k l.length) a cs w
  | [], k, hl, f, st, f', st', φ, a, w, h, H, F, hQ => by
    cases h
    exact hQ φ a w H (Kept.refl _ _) F
  | o :: rest, k, hl, f, st, f', st', φ, a, w, h, H, F, hQ => by
    have ho : ops[k]? = some o := by simpa using (hl 0).symm
    have hl' : ∀ j, rest[j]? = ops[k + 1 + j]? := fun j => by have := hl (j + 1); simpa [Nat.add_assoc, Nat.add_comm 1 j] using this
    rw [List.length_cons, List.range'_succ]
    simp only [wpOpsS, ho]
    simp only [evOpsS] at h
    split at h
    · rename_i hw
      rw [awanted_ok F hw]
      exact wpOpsS_at hc hcs rest (k + 1) hl' _ _ _ _ φ _ w h H (F.put (VR.undef φ) _) hQ
    · rename_i hw
      rw [awanted_ok F hw]
      simp only [if_true]
      split at h
      · rename_i hr
        rw [run_rec hr]
        simp only [hcs]
        exact wpOpsS_at hc hcs rest (k + 1) hl' _ _ _ _ φ _ w h H (F.put (.leaf rfl) _) hQ
      · split at h
        · rename_i v1 st1 hu
          have hwp : o.wp P a w (fun a' w' => wpOpsS P ops Q (List.range' (k + 1) rest.length) a' cs w') (fun e a' w' => Q e a' cs w') :=
            evTail_wp H (F.ER o) hu fun φ' v' w' h1 h2 h3 => wpOpsS_at hc hcs rest (k + 1) hl' _ _ _ _ φ' _ w' h h1 ((F.mono h2.le).put h3 _) fun φ'' a' w'' k1 k2 k3 => hQ φ'' a' w'' k1 (h2.trans k2) k3
          unfold Oper.wp at hwp
          split
          · rename_i w' hrun
            rw [hrun] at hwp
            exact hwp.elim
          · exact hwp
        split at h
        · rename_i u hu
          have hwp : o.wp P a w (fun a' w' => wpOpsS P ops Q (List.range' (k + 1) rest.length) a' cs w') (fun e a' w' => Q e a' cs w') :=
            evGot_wp hc H (F.ER o) hu (thn_to H fun φ' v' w' h1 h2 h3 => wpOpsS_at hc hcs rest (k + 1) hl' _ _ _ _ φ' _ w' h h1 ((F.mono h2.le).put h3 _) fun φ'' a' w'' k1 k2 k3 => hQ φ'' a' w'' k1 (h2.trans k2) k3)
          unfold Oper.wp at hwp
          split
          · rename_i w' hrun
            rw [hrun] at hwp
            exact hwp.elim
          · exact hwp
        · cases h
    · cases h

def evCS (P : Program) (oo : OpO) (call : CallF) (N : Nat) : Code → Fr → St → Res
  | .region id ops d, f, st => match d with
    | true => evC P oo call N (.region id ops true) f st
    | false => match evOpsS P oo call ops.toList ops.toList f st with
      | some (f', st') => some (.nrm, f', st')
      | none => none
  | .seq a b, f, st => match evCS P oo call N a f st with
    | some (.nrm, f', st') => evCS P oo call N b f' st'
    | some (.exit i, f', st') => some (.exit i, f', st')
    | some (.ret, f', st') => some (.ret, f', st')
    | none => none
  | .cond c x y, f, st => match f.E c with
    | some (.bool true) => evCS P oo call N x f st
    | some (.bool false) => evCS P oo call N y f st
    | _ => none
  | c, f, st => evC P oo call N c f st
def EndsS (w0 : W0) (st : St) (φ : Pm) (e : Ex) (f' : Fr) (st' : St) (cs : List Frame) (Q : Exit → Act → List Frame → World → Prop) : Prop :=
  ∀ φ' a' w', HR w0 φ' st' w' → Kept st φ st' φ' → FrR φ' f' a' → Q e.to a' cs w'
theorem evCS_wp {P : Program} {oo : OpO} (hm : P.follows .mixedOrders = true) {call : CallF} {w0 : W0} (hcall : CallOk P oo w0 call) (N : Nat) {cs : List Frame} (hcs : recoverD cs = none) : ∀ (c : Code) (f : Fr) (st : St) (e : Ex) (f' : Fr) (st' : St), evCS P oo call N c f st = some (e, f', st') →
    ∀ φ a w, HR w0 φ st w → FrR φ f a → ∀ Q, EndsS w0 st φ e f' st' cs Q → c.wpS P Q a cs w := by
  have plain : ∀ (c : Code) (f : Fr) (st : St) (e : Ex) (f' : Fr) (st' : St), evC P oo call N c f st = some (e, f', st') →
      ∀ φ a w, HR w0 φ st w → FrR φ f a → ∀ Q, EndsS w0 st φ e f' st' cs Q → c.wpS P Q a cs w := fun c f st e f' st' h φ a w H F Q hQ =>
    wpS_of_wp (evC_wp hm hcall N c f st e f' st' h φ a w H F _ fun φ' a' w' h1 h2 h3 => hQ φ' a' w' h1 h2 h3)
  intro c
  induction c with
  | region id ops d =>
    intro f st e f' st' h φ a w H F Q hQ
    cases d with
    | true => exact plain _ _ _ _ _ _ h φ a w H F Q hQ
    | false =>
      simp only [evCS] at h
      split at h
      · rename_i f1 st1 h1
        cases h
        refine wpS_region ?_
        rw [List.range_eq_range', ← Array.length_toList]
        exact wpOpsS_at hcall hcs ops.toList 0 (fun j => by simp) _ _ _ _ φ a w h1 H F hQ
      · cases h
  | seq x y ihx ihy =>
    intro f st e f' st' h φ a w H F Q hQ
    simp only [evCS] at h
    refine wpS_seq ?_
    split at h
    · rename_i f1 st1 h1
      refine ihx _ _ _ _ _ h1 φ a w H F _ fun φ1 a1 w1 H1 K1 F1 => ?_
      exact ihy _ _ _ _ _ h φ1 a1 w1 H1 F1 Q fun φ2 a2 w2 H2 K2 F2 => hQ φ2 a2 w2 H2 (K1.trans K2) F2
    · rename_i i f1 st1 h1
      cases h
      exact ihx _ _ _ _ _ h1 φ a w H F _ hQ
    · rename_i f1 st1 h1
      cases h
      exact ihx _ _ _ _ _ h1 φ a w H F _ hQ
    · cases h
  | cond c x y ihx ihy =>
    intro f st e f' st' h φ a w H F Q hQ
    simp only [evCS] at h
    split at h
    · rename_i hb
      have := F.E hb
      refine wpS_cond (t := true) ?_ (ihx _ _ _ _ _ h φ a w H F Q hQ)
      generalize a.eval c = v at this
      cases this; rfl
    · rename_i hb
      have := F.E hb
      refine wpS_cond (t := false) ?_ (ihy _ _ _ _ _ h φ a w H F Q hQ)
      generalize a.eval c = v at this
      cases this; rfl
    · cases h
  | skip => exact plain _
  | label l => exact plain _
  | exit id => exact plain _
  | ret => exact plain _
  | goto l => exact plain _
  | refuse y => exact plain _
  | rangeFunc f p x y _ _ => exact plain _
  | block id c _ => exact plain _
  | loop c _ => exact plain _
  | scope c _ => exact plain _

/-- A call that was put off, of a call that returns. -/
abbrev DcF := FuncId → List Value → St → Option St
def DcOk (P : Program) (w0 : W0) (dc : DcF) : Prop := ∀ k args st st', dc k args st = some st' → ∀ φ w args', HR w0 φ st w → LR φ args args' →
  (∀ w, (callFunc k ⟨args'⟩).run P w = .ok (.enter k ⟨args'⟩) w) ∧ CallsD P k ⟨args'⟩ .returning w fun e u' w' => ∃ v' φ', e = .returned v' ∧ u' = .returning ∧ HR w0 φ' st' w' ∧ Kept st φ st' φ'
def evDefs (dc : DcF) : List (Nat × List Value) → St → Option St
  | [], st => some st
  | (k, args) :: ds, st => match dc k args st with
    | some st' => evDefs dc ds st'
    | none => none
theorem evDefs_ok {P : Program} {dc : DcF} {w0 : W0} (hd : DcOk P w0 dc) {fn : Func} {tmps : Array Value} {R : Ending → World → Prop} : ∀ (ds : List (Nat × List Value)) (ds' : List Deferred) (st st' : St) (φ : Pm) (w : World), evDefs dc ds st = some st' → HR w0 φ st w → DsR φ ds ds' →
    (∀ φ' w', HR w0 φ' st' w' → Kept st φ st' φ' → ∃ v, (results fn tmps).run P w' = .ok v w' ∧ R (.returned v) w') → Leaves P fn tmps R ds' .returning w
  | [], _, st, st', φ, w, h, H, D, hR => by
    cases D
    cases h
    exact hR φ w H (Kept.refl _ _)
  | (k, args) :: ds, _, st, st', φ, w, h, H, D, hR => by
    cases D with
    | @cons _ _ dargs cap _ ds' hl D =>
      simp only [evDefs] at h
      split at h
      · rename_i st1 h1
        obtain ⟨k1, k2⟩ := hd _ _ _ _ h1 φ w _ H hl
        refine leaves_cons (f := k) (args := ⟨dargs ++ cap⟩) (by simp) ?_ ?_
        · have e : (⟨dargs⟩ ++ ⟨cap⟩ : Array Value) = ⟨dargs ++ cap⟩ := by apply Array.ext'; simp
          simp only [invoke]
          rw [e]
          exact k1 w
        · refine CallsD.mono k2 ?_
          rintro e u' w' ⟨v', φ', rfl, rfl, H1, K1⟩
          exact evDefs_ok hd ds ds' _ _ φ' w' h H1 (D.mono K1.le) fun φ2 w2 H2 K2 => hR φ2 w2 H2 (K1.trans K2)
      · cases h

def evDc (P : Program) (oo : OpO) (call : CallF) (tab : Tab) (N : Nat) : DcF := fun k args st => match tab.find k with
  | some fn => match fn.body with
    | some c => match evCS P oo call N c (entered args fn.ntmps) st with
      | some (.nrm, f, st') => (match f.defers, ares P st' f fn.results.toList with
        | [], some _ => some st'
        | _, _ => none)
      | some (.ret, f, st') => (match f.defers, ares P st' f fn.results.toList with
        | [], some _ => some st'
        | _, _ => none)
      | _ => none
    | none => none
  | none => none
theorem evDc_ok {P : Program} {oo : OpO} (hm : P.follows .mixedOrders = true) {tab : Tab} (ht : tab.ok P) {call : CallF} {w0 : W0} (hcall : CallOk P oo w0 call) (N : Nat) : DcOk P w0 (evDc P oo call tab N) := by
  intro k args st st' h φ w args' H hl
  simp only [evDc] at h
  split at h
  · rename_i fn hfn
    obtain ⟨hf, henter⟩ := ht _ _ hfn
    refine ⟨fun w => henter _ w, ?_⟩
    split at h
    · rename_i c hc
      refine callsD_of_wpS hf hc fun c0 cs hu => ?_
      have fin : ∀ (f : Fr) (st1 : St) (e : Ex), (e = .nrm ∨ e = .ret) → (match f.defers, ares P st1 f fn.results.toList with | [], some _ => some st1 | _, _ => none) = some st' →
          EndsS w0 st φ e f st1 (c0 :: cs) (bodyPostS P fn c0 cs fun e u' w' => ∃ v' φ', e = .returned v' ∧ u' = .returning ∧ HR w0 φ' st' w' ∧ Kept st φ st' φ') := by
        intro f st1 e he hr φ1 a1 w1 H1 K1 F1
        split at hr
        · rename_i vs hdf hvs
          cases hr
          obtain ⟨vs', k1, k2⟩ := ares_ok H1 F1 _ _ hvs
          have hd : a1.defers = [] := by
            have := F1.defers
            rw [hdf] at this
            exact this.nil_inv
          have hc0 : (c0 :: cs) = { c0 with mode := .returning } :: cs := by rw [← hu]
          have := run_results k1
          rcases he with rfl | rfl <;> exact ⟨hd, .returning, hc0, _, this, _, φ1, rfl, rfl, H1, K1⟩
        · cases hr
      have hrec : recoverD (c0 :: cs) = none := by simp [recoverD, hu]
      have body := evCS_wp hm hcall N hrec c
      split at h
      · rename_i f st1 h1
        exact body _ _ _ _ _ h1 φ _ w H (entered_ok hl _) _ (fin f st1 .nrm (.inl rfl) h)
      · rename_i f st1 h1
        exact body _ _ _ _ _ h1 φ _ w H (entered_ok hl _) _ (fin f st1 .ret (.inr rfl) h)
      · cases h
    · cases h
  · cases h

/-! ### calls -/
def evEnd (P : Program) (dc : DcF) (fn : Func) (f : Fr) (st : St) : Option (Value × St) := match evDefs dc f.defers st with
  | some st' => match ares P st' f fn.results.toList with
    | some vs => some (ares1 vs, st')
    | none => none
  | none => none
def evFn (P : Program) (oo : OpO) (call : CallF) (tab : Tab) (N : Nat) (k : Nat) (args : List Value) (st : St) : Option (Value × St) := match tab.find k with
  | some fn => match fn.body with
    | some c => match evC P oo call N c (entered args fn.ntmps) st with
      | some (.nrm, f, st') => evEnd P (evDc P oo call tab N) fn f st'
      | some (.ret, f, st') => evEnd P (evDc P oo call tab N) fn f st'
      | _ => none
    | none => none
  | none => none
theorem evFn_ok {P : Program} {oo : OpO} (hm : P.follows .mixedOrders = true) {tab : Tab} (ht : tab.ok P) {call : CallF} {w0 : W0} (hcall : CallOk P oo w0 call) {N k : Nat} {args : List Value} {st st' : St} {v : Value} (h : evFn P oo call tab N k args st = some (v, st'))
    {φ : Pm} {w : World} {args' : List Value} (H : HR w0 φ st w) (hl : LR φ args args') :
    (∀ w, (callFunc k ⟨args'⟩).run P w = .ok (.enter k ⟨args'⟩) w) ∧ Calls P k ⟨args'⟩ w fun e w' => ∃ v' φ', e = .returned v' ∧ HR w0 φ' st' w' ∧ Kept st φ st' φ' ∧ VR φ' v v' := by
  unfold evFn at h
  split at h
  · rename_i fn hfn
    obtain ⟨hf, henter⟩ := ht _ _ hfn
    refine ⟨fun w => henter _ w, ?_⟩
    split at h
    · rename_i c hc
      refine calls_of_wp_defers hf hc ?_
      have hdc := evDc_ok hm ht hcall N
      have fin : ∀ (f : Fr) (st1 : St) (e : Ex), (e = .nrm ∨ e = .ret) → evEnd P (evDc P oo call tab N) fn f st1 = some (v, st') →
          Ends w0 st φ e f st1 (bodyPostD P fn fun e w' => ∃ v' φ', e = .returned v' ∧ HR w0 φ' st' w' ∧ Kept st φ st' φ' ∧ VR φ' v v') := by
        intro f st1 e he hr φ1 a1 w1 H1 K1 F1
        unfold evEnd at hr
        split at hr
        · rename_i st2 h2
          split at hr
          · rename_i vs hvs
            simp only [Option.some.injEq, Prod.mk.injEq] at hr
            obtain ⟨rfl, rfl⟩ := hr
            have : Leaves P fn a1.tmps (fun e w' => ∃ v' φ', e = .returned v' ∧ HR w0 φ' st2 w' ∧ Kept st φ st2 φ' ∧ VR φ' (ares1 vs) v') a1.defers .returning w1 := by
              refine evDefs_ok hdc _ _ _ _ φ1 w1 h2 H1 F1.defers fun φ2 w2 H2 K2 => ?_
              obtain ⟨vs', k1, k2⟩ := ares_ok H2 (F1.mono K2.le) _ _ hvs
              exact ⟨_, run_results k1, _, φ2, rfl, H2, K1.trans K2, k2.ares1⟩
            rcases he with rfl | rfl <;> exact this
          · cases hr
        · cases hr
      have body := evC_wp hm hcall N c
      split at h
      · rename_i f st1 h1
        exact body _ _ _ _ _ h1 φ _ w H (entered_ok hl _) _ (fin f st1 .nrm (.inl rfl) h)
      · rename_i f st1 h1
        exact body _ _ _ _ _ h1 φ _ w H (entered_ok hl _) _ (fin f st1 .ret (.inr rfl) h)
      · cases h
    · cases h
  · cases h
/-- Functions without a body: what the model gives for them · pure: of plain values a plain one · same: its one argument · row: a new row of at least so many bytes, whatever they are. -/
inductive XE where
  | pure (e : Array Value → Sem Value)
  | same
  | row (elem : TypeId)
abbrev XTab := List (Nat × XE)
def XTab.find : XTab → Nat → Option XE
  | [], _ => none
  | (k, e) :: l, n => if Nat.beq k n then some e else XTab.find l n
def XE.ok (P : Program) (k : Nat) : XE → Prop
  | .pure e => ∀ args w, (callFunc k args).run P w = ((e args).run P w).andThen fun v w' => .ok (.value v) w'
  | .same => ∀ v w, (callFunc k #[v]).run P w = .ok (.value v) w
  | .row elem => ∀ (n : Nat) w, n ≤ 281474976710656 → ∃ cs : Array Value, (callFunc k #[.int .i64 n]).run P w = .ok (.value (.slice (some ⟨w.heap.size, 0, none⟩) n cs.size)) (w.drew.drew.alloc (.cells cs elem)) ∧ n ≤ cs.size
def XTab.ok (P : Program) (xt : XTab) : Prop := ∀ k x, xt.find k = some x → x.ok P k
def evX (P : Program) (x : XE) (args : List Value) (st : St) : Option (Value × St) := match x with
  | .same => (match args with
    | [v] => some (v, st)
    | _ => none)
  | .pure e => if args.all (plainB 4) then (match prun P (e ⟨args⟩) with
    | some v => if plainB 3 v then some (v, st) else none
    | none => none) else none
  | .row elem => (match args with
    | [.int .i64 (.ofNat n)] => if Nat.ble n 281474976710656 then some (.slice (some ⟨st.next, 0, none⟩) n n, ⟨st.heap.put st.next (some (.cells [] elem true 1)), st.next + 1⟩) else none
    | _ => none)
theorem evX_ok {P : Program} {k : Nat} {x : XE} (hx : x.ok P k) {args : List Value} {st st' : St} {v : Value} (h : evX P x args st = some (v, st')) {w0 : W0} {φ : Pm} {w : World} {args' : List Value} (H : HR w0 φ st w) (hl : LR φ args args') :
    ∃ φ' v' w', (callFunc k ⟨args'⟩).run P w = .ok (.value v') w' ∧ HR w0 φ' st' w' ∧ Kept st φ st' φ' ∧ VR φ' v v' := by
  unfold evX at h
  split at h
  · split at h
    · rename_i u
      cases h
      rcases args' with _ | ⟨u', _ | ⟨u2, args'⟩⟩
      · exact absurd hl.1 (by simp)
      · exact ⟨φ, u', w, hx u' w, H, Kept.refl _ _, hl.cons_inv.1⟩
      · exact absurd hl.1 (by simp)
    · cases h
  · rename_i e
    split at h
    · rename_i hp
      split at h
      · rename_i u hu
        split at h
        · rename_i hpu
          cases h
          rw [plain_list0 hp hl]
          exact ⟨φ, v, w, by rw [hx, prun_run _ _ hu w]; rfl, H, Kept.refl _ _, plain_refl 3 v hpu⟩
        · cases h
      · cases h
    · cases h
  · rename_i elem
    split at h
    · rename_i n
      split at h
      · rename_i hn
        have hn := Nat.le_of_ble_eq_true hn
        cases h
        have ha : args' = [.int .i64 (n : Int)] := plain_list0 (d := 0) (by rfl) hl
        subst ha
        obtain ⟨cs, hr, hcs⟩ := hx n w hn
        have hb := H.fresh st.next (Nat.le_refl _)
        refine ⟨φ.tell st.next (.live w.heap.size 0 cs.size true 1), _, _, hr, H.new hb (Nat.le_succ _) (Nat.lt_succ_self _) rfl rfl rfl rfl ⟨rfl, rfl, cs, rfl, rfl, by simp, fun e => (by cases e), ?_⟩, ⟨Nat.le_succ _, Le.tell hb, fun c hc hno => ?_⟩, .slice ?_ ?_⟩
        · exact ⟨by simp, fun i a b hi => by simp at hi⟩
        · have hne : c ≠ st.next := by omega
          refine ⟨by rw [Pm.tell_other _ _ _ _ hne]; exact hno, ?_⟩
          show (st.heap.put st.next _).get c = _
          rw [Tr.get_put_eq, if_neg hne]
        · unfold AR; simp [Pm.tell_same]
        · unfold CR; simp [Pm.tell_same, hcs]
      · cases h
    · cases h
/-- What is known of calls: of a function, and what it is called with, and the blocks, its answer. -/
abbrev Orc := Nat → List Value → St → Option Value
def OrcOk (P : Program) (w0 : W0) (orc : Orc) : Prop := ∀ k args st v, orc k args st = some v → ∀ φ args' w, HR w0 φ st w → LR φ args args' →
  (∀ w, (callFunc k ⟨args'⟩).run P w = .ok (.enter k ⟨args'⟩) w) ∧ Calls P k ⟨args'⟩ w fun e w' => (∃ v', e = .returned v' ∧ VR φ v v') ∧ Below w.heap.size w w'
/-- A plain answer, whatever the blocks. -/
theorem orc_plain {P : Program} {w0 : W0} {orc : Orc} (h : ∀ k args st v, orc k args st = some v → plainB 3 v = true ∧ ∀ φ args', Sy w0 φ → LR φ args args' → ∀ w,
  (∀ w, (callFunc k ⟨args'⟩).run P w = .ok (.enter k ⟨args'⟩) w) ∧ Calls P k ⟨args'⟩ w fun e w' => e = .returned v ∧ Below w.heap.size w w') : OrcOk P w0 orc := by
  intro k args st v hv φ args' w H hl
  obtain ⟨hp, hc⟩ := h k args st v hv
  obtain ⟨h1, h2⟩ := hc φ args' H.sym hl w
  exact ⟨h1, Calls.mono h2 fun e w' h => ⟨⟨v, h.1, plain_refl 3 v hp⟩, h.2⟩⟩
theorem HR.past {w0 : W0} {w w' : World} {φ : Pm} {st : St} (H : HR w0 φ st w) (h : Below w.heap.size w w') : HR w0 φ st w' :=
  ⟨H.below.trans (h.mono H.below.size), H.fresh, H.absent, fun b ob hb hn => by
    obtain ⟨B, o, S, g, s, k1, k2, k3⟩ := H.obj b ob hb hn
    exact ⟨B, o, S, g, s, k1, k2, by rw [h.block B (H.used _ _ _ _ _ _ k1)]; exact k3⟩, H.inj, fun b B o S g s hb => Nat.lt_of_lt_of_le (H.used b B o S g s hb) h.size, H.sym⟩
def evCall (P : Program) (oo : OpO) (orc : Orc) (tab : Tab) (xt : XTab) (N : Nat) : Nat → CallF
  | 0 => fun _ _ _ => none
  | n + 1 => fun k args st => match orc k args st with
    | some v => some (v, st)
    | none => match xt.find k with
      | some x => evX P x args st
      | none => evFn P oo (evCall P oo orc tab xt N n) tab N k args st
theorem evCall_ok {P : Program} {oo : OpO} (hm : P.follows .mixedOrders = true) {tab : Tab} (ht : tab.ok P) {xt : XTab} (hx : xt.ok P) {w0 : W0} (hoo : OpOk P w0 oo) {orc : Orc} (ho : OrcOk P w0 orc) (N : Nat) : ∀ n, CallOk P oo w0 (evCall P oo orc tab xt N n) := by
  intro n
  induction n with
  | zero => exact ⟨hoo, fun k args st v st' h => by cases h⟩
  | succ n ih =>
    refine ⟨hoo, fun k args st v st' h φ w args' H hl => ?_⟩
    simp only [evCall] at h
    split at h
    · rename_i u hu
      cases h
      obtain ⟨h1, h2⟩ := ho _ _ _ _ hu φ args' w H hl
      refine .inl ⟨h1, Calls.mono h2 ?_⟩
      rintro e w' ⟨⟨v', rfl, hv⟩, hb⟩
      exact ⟨v', φ, rfl, H.past hb, Kept.refl _ _, hv⟩
    · split at h
      · rename_i x hfx
        exact .inr (evX_ok (hx _ _ hfx) h H hl)
      · exact .inl (evFn_ok hm ht ih h H hl)

/-! ### closed calls, and calls with values that are not looked at -/
/-- The first numbers stand for values. -/
def symφ (w0 : W0) : Pm := fun r => if r < w0.m then .val (w0.env r) else .none
theorem symφ_sy (w0 : W0) : Sy w0 (symφ w0) := ⟨fun r hr => if_pos hr, fun r v h => by
  unfold symφ at h
  split at h
  · cases h; rfl
  · cases h⟩
theorem HR.start (w0 : W0) {n : Nat} (hn : w0.m ≤ n) : HR w0 (symφ w0) ⟨.leaf, n⟩ w0.w := by
  have nolive : ∀ {b B o S g s}, symφ w0 b = .live B o S g s → False := fun h => by unfold symφ at h; split at h <;> cases h
  refine ⟨⟨rfl, rfl, rfl, Nat.le_refl _, fun _ _ => rfl⟩, fun b hb => ?_, fun b _ => Tr.get_leaf b, fun b ob h => ?_, fun _ _ _ _ _ _ _ _ _ _ _ _ h => (nolive h).elim, fun _ _ _ _ _ _ h => (nolive h).elim, symφ_sy w0⟩
  · unfold symφ; rw [if_neg (by simp at hb; omega)]
  · rw [Tr.get_leaf] at h; cases h
/-- A value that a number stands for. -/
theorem VR.sym {w0 : W0} {φ : Pm} (h : Sy w0 φ) {r : Nat} (hr : r < w0.m) : VR φ (.chan (some r)) (w0.env r) := .top (h.1 r hr) (w0.one r hr).1 (w0.one r hr).2
/-- No values. -/
def bare (w : World) : W0 := ⟨w, fun _ => undef, 0, fun _ h => absurd h (Nat.not_lt_zero _)⟩
def noOrc : Orc := fun _ _ _ => none
theorem noOrc_ok (P : Program) (w0 : W0) : OrcOk P w0 noOrc := fun _ _ _ _ h => by cases h
def gives (P : Program) (oo : OpO) (orc : Orc) (tab : Tab) (xt : XTab) (N n m k : Nat) (args : List Value) (v : Value) : Bool := match evFn P oo (evCall P oo orc tab xt N n) tab N k args ⟨.leaf, m⟩ with
  | some (u, _) => veq 8 u v
  | none => false
theorem run_rel {P : Program} {oo : OpO} (hm : P.follows .mixedOrders = true) {tab : Tab} (ht : tab.ok P) {xt : XTab} (hx : xt.ok P) {orc : Orc} {N n m k : Nat} {w0 : W0} (hw : w0.m ≤ m) (hoo : OpOk P w0 oo) (ho : OrcOk P w0 orc) {args args' : List Value} (hl : LR (symφ w0) args args') {v : Value} (hv : plainB 3 v = true) (h : gives P oo orc tab xt N n m k args v = true) :
    Calls P k ⟨args'⟩ w0.w fun e w' => e = .returned v ∧ Below w0.w.heap.size w0.w w' := by
  unfold gives at h
  split at h
  · rename_i u st' hu
    refine Calls.mono (evFn_ok hm ht (evCall_ok hm ht hx hoo ho N n) hu (HR.start w0 hw) hl).2 ?_
    rintro e w' ⟨v', φ', rfl, h1, h2, h3⟩
    rw [veq_eq h] at h3
    rw [plain_eq 3 v v' hv h3]
    exact ⟨rfl, h1.below⟩
  · cases h
theorem plain_rel {φ : Pm} {args : List Value} (ha : args.all (plainB 3) = true) : LR φ args args := ⟨rfl, fun i x y hx hy => by
    rw [hx] at hy; cases hy
    exact plain_refl 3 _ (List.all_eq_true.1 ha _ (List.mem_of_getElem? hx))⟩
theorem run_closed {P : Program} (hm : P.follows .mixedOrders = true) {tab : Tab} (ht : tab.ok P) {xt : XTab} (hx : xt.ok P) {N n k : Nat} {args : List Value} (ha : args.all (plainB 3) = true) {v : Value} (hv : plainB 3 v = true) (h : gives P noOpO noOrc tab xt N n 0 k args v = true) (w : World) :
    Calls P k ⟨args⟩ w fun e w' => e = .returned v ∧ Below w.heap.size w w' :=
  run_rel (w0 := bare w) hm ht hx (Nat.le_refl _) (noOpO_ok _ _) (noOrc_ok _ _) (plain_rel ha) hv h
/-- One text that stands for many. -/
theorem one_mark {φ : Pm} {m s : ByteArray} (h : isMark m = true) (hs : ∀ c ∈ farWords m, s.data.toList ≠ c) : LR φ [.string m] [.string s] := LR.cons (.opq h hs) LR.nil
end Go.Ev

namespace Go.Ev
open Go Go.RowKit

theorem one_sym {w0 : W0} {φ : Pm} (sy : Sy w0 φ) {r : Nat} {v : Value} (h : VR φ (.chan (some r)) v) : v = w0.env r := by
  cases h with
  | leaf hl => simp [leafB] at hl
  | top hr _ _ => exact sy.2 _ _ hr
section
variable {P : Program} {w : World} {t : TypeId} {xo yo : Operand}
theorem op_add {a b : Int} (h1 : -9223372036854775808 ≤ a + b) (h2 : a + b ≤ 9223372036854775807) : (do eqGuard .add t xo yo (.int .i64 a) (.int .i64 b); binOp .add t (.int .i64 a) (.int .i64 b) : Sem Value).run P w = .ok (.int .i64 (a + b)) w := by
  have hw : IntKind.i64.wrap (a + b) = a + b := by rw [IntKind.wrap_i64]; omega
  simp [eqGuard, binOp, go_sem, hw]
theorem op_gtr {a b : Int} : (do eqGuard .gtr t xo yo (.int .i64 a) (.int .i64 b); binOp .gtr t (.int .i64 a) (.int .i64 b) : Sem Value).run P w = .ok (.bool (decide (a > b))) w := by
  simp [eqGuard, binOp, go_sem]
theorem op_eql {a b : Int} : (do eqGuard .eql t xo yo (.int .i64 a) (.int .i64 b); binOp .eql t (.int .i64 a) (.int .i64 b) : Sem Value).run P w = .ok (.bool (a == b)) w := by
  simp [eqGuard, binOp, go_sem]
theorem op_neq {a b : Int} : (do eqGuard .neq t xo yo (.int .i64 a) (.int .i64 b); binOp .neq t (.int .i64 a) (.int .i64 b) : Sem Value).run P w = .ok (.bool (a != b)) w := by
  simp [eqGuard, binOp, go_sem]
theorem op_leq {a b : Int} : (do eqGuard .leq t xo yo (.int .i64 a) (.int .i64 b); binOp .leq t (.int .i64 a) (.int .i64 b) : Sem Value).run P w = .ok (.bool (decide (a ≤ b))) w := by
  simp [eqGuard, binOp, go_sem]
theorem op_lss {a b : Int} : (do eqGuard .lss t xo yo (.int .i64 a) (.int .i64 b); binOp .lss t (.int .i64 a) (.int .i64 b) : Sem Value).run P w = .ok (.bool (decide (a < b))) w := by
  simp [eqGuard, binOp, go_sem]
theorem op_geq {a b : Int} : (do eqGuard .geq t xo yo (.int .i64 a) (.int .i64 b); binOp .geq t (.int .i64 a) (.int .i64 b) : Sem Value).run P w = .ok (.bool (decide (a ≥ b))) w := by
  simp [eqGuard, binOp, go_sem]
theorem op_sub {a b : Int} (h1 : -9223372036854775808 ≤ a - b) (h2 : a - b ≤ 9223372036854775807) : (do eqGuard .sub t xo yo (.int .i64 a) (.int .i64 b); binOp .sub t (.int .i64 a) (.int .i64 b) : Sem Value).run P w = .ok (.int .i64 (a - b)) w := by
  have hw : IntKind.i64.wrap (a - b) = a - b := by rw [IntKind.wrap_i64]; omega
  simp [eqGuard, binOp, go_sem, hw]
theorem op_neg {a : Int} (h1 : -9223372036854775808 ≤ -a) (h2 : -a ≤ 9223372036854775807) : (Op.unary .neg (.int .i64 a)).run P w = .ok (.int .i64 (-a)) w := by
  have hw : IntKind.i64.wrap (-a) = -a := by rw [IntKind.wrap_i64]; omega
  simp [Op.unary, go_sem, hw]
theorem op_len_slice {A : Option Addr} {l c : Nat} {e ty : TypeId} (h : P.underlying t = some (.slice e)) : (Builtin.len_ #[t] ty #[.slice A l c]).run P w = .ok (.int .i64 l) w := by
  simp [Builtin.len_, run_underlying h]
  rfl
theorem op_len_string {s : ByteArray} {ty : TypeId} (h : P.underlying t = some .string) : (Builtin.len_ #[t] ty #[.string s]).run P w = .ok (.int .i64 s.size) w := by
  simp [Builtin.len_, run_underlying h]
  rfl
end
end Go.Ev

