/-
  Calls of which one knows also what they do to the blocks.
-/
import Derived.Test.YthakhdbakmlooaaDoorEvM7
namespace Go.Ev
open Go Go.RowKit

/-- Calls that are told ahead of all others: as evCall, with 'spc' asked first. -/
def evCallS (P : Program) (oo : OpO) (orc : Orc) (spc : CallF) (tab : Tab) (xt : XTab) (N : Nat) : Nat → CallF
  | 0 => fun _ _ _ => none
  | n + 1 => fun k args st => match spc k args st with
    | some r => some r
    | none => match orc k args st with
      | some v => some (v, st)
      | none => match xt.find k with
        | some x => evX P x args st
        | none => evFn P oo (evCallS P oo orc spc tab xt N n) tab N k args st
theorem evCallS_ok {P : Program} {oo : OpO} (hm : P.follows .mixedOrders = true) {tab : Tab} (ht : tab.ok P) {xt : XTab} (hx : xt.ok P) {w0 : W0} (hoo : OpOk P w0 oo) {orc : Orc} (ho : OrcOk P w0 orc) {spc : CallF} (hs : CallOk P oo w0 spc) (N : Nat) : ∀ n, CallOk P oo w0 (evCallS P oo orc spc tab xt N n) := by
  intro n
  induction n with
  | zero => exact ⟨hoo, fun k args st v st' h => by cases h⟩
  | succ n ih =>
    refine ⟨hoo, fun k args st v st' h φ w args' H hl => ?_⟩
    simp only [evCallS] at h
    split at h
    · rename_i r hr
      cases h
      exact hs.2 _ _ _ _ _ hr φ w args' H hl
    · split at h
      · rename_i u hu
        cases h
        obtain ⟨h1, h2⟩ := ho _ _ _ _ hu φ args' w H hl
        refine .inl ⟨h1, Calls.mono h2 ?_⟩
        rintro e w' ⟨⟨v', rfl, hv⟩, hb⟩
        exact ⟨v', φ, rfl, H.past hb, Kept.refl _ _, hv⟩
      · split at h
        · rename_i x hfx
          exact .inr (evX_ok (hx _ _ hfx) h H hl)
        · exact .inl (evFn_ok hm ht ih h H hl)
def givesS (P : Program) (oo : OpO) (orc : Orc) (spc : CallF) (tab : Tab) (xt : XTab) (N n m k : Nat) (args : List Value) (v : Value) : Bool := match evFn P oo (evCallS P oo orc spc tab xt N n) tab N k args ⟨.leaf, m⟩ with
  | some (u, _) => veq 8 u v
  | none => false
theorem run_relS {P : Program} {oo : OpO} (hm : P.follows .mixedOrders = true) {tab : Tab} (ht : tab.ok P) {xt : XTab} (hx : xt.ok P) {orc : Orc} {spc : CallF} {N n m k : Nat} {w0 : W0} (hw : w0.m ≤ m) (hoo : OpOk P w0 oo) (ho : OrcOk P w0 orc) (hs : CallOk P oo w0 spc) {args args' : List Value} (hl : LR (symφ w0) args args') {v : Value} (hv : plainB 3 v = true) (h : givesS P oo orc spc tab xt N n m k args v = true) :
    Calls P k ⟨args'⟩ w0.w fun e w' => e = .returned v ∧ Below w0.w.heap.size w0.w w' := by
  unfold givesS at h
  split at h
  · rename_i u st' hu
    refine Calls.mono (evFn_ok hm ht (evCallS_ok hm ht hx hoo ho hs N n) hu (HR.start w0 hw) hl).2 ?_
    rintro e w' ⟨v', φ', rfl, h1, h2, h3⟩
    rw [veq_eq h] at h3
    rw [plain_eq 3 v v' hv h3]
    exact ⟨rfl, h1.below⟩
  · cases h

/-- The numbers whose bits are set, of words of 64 bits. -/
def bitsOf : Nat → Nat → Nat → List Nat
  | 0, _, _ => []
  | f + 1, i, x => if Nat.beq x 0 then [] else if Nat.beq (x % 2) 1 then i :: bitsOf f (i + 1) (x / 2) else bitsOf f (i + 1) (x / 2)
/-- A block of the call's own that a callee has left. -/
theorem HR.adopt {w0 : W0} {w : World} {φ : Pm} {st : St} (h : HR w0 φ st w) {B : Nat} (hB : ∀ b B' o S g s, φ b = .live B' o S g s → B' ≠ B) (hown : w0.w.heap.size ≤ B) (hlt : B < w.heap.size) {ob : Ob} {S : Nat} {g : Bool} {s : Nat}
    (ho : OR (φ.tell st.next (.live B 0 S g s)) ob w.heap[B]? 0 S g s) :
    HR w0 (φ.tell st.next (.live B 0 S g s)) ⟨st.heap.put st.next (some ob), st.next + 1⟩ w ∧ Kept st φ ⟨st.heap.put st.next (some ob), st.next + 1⟩ (φ.tell st.next (.live B 0 S g s)) := by
  have hb := h.fresh st.next (Nat.le_refl _)
  have hle : Le φ (φ.tell st.next (.live B 0 S g s)) := Le.tell hb
  refine ⟨⟨h.below, ?_, ?_, ?_, ?_, ?_, ?_⟩, Nat.le_succ _, hle, fun c hc hn => ⟨?_, ?_⟩⟩
  · intro c hc
    rw [Pm.tell_other _ _ _ _ (by simp at hc; omega)]
    exact h.fresh c (by simp at hc; omega)
  · intro c hc
    simp only at hc ⊢
    rw [Tr.get_put_eq, if_neg (by omega)]
    exact h.absent c (by omega)
  · intro c x hc hcn
    simp only [Tr.get_put_eq] at hc
    by_cases e : c = st.next
    · subst e
      simp only [if_true] at hc
      cases hc
      exact ⟨B, 0, S, g, s, Pm.tell_same _ _ _, fun _ => hown, ho⟩
    · simp only [e, if_false] at hc
      rw [Pm.tell_other _ _ _ _ e] at hcn
      obtain ⟨B', o, S', g', s', k1, k2, k3⟩ := h.obj c x hc hcn
      exact ⟨B', o, S', g', s', by rw [Pm.tell_other _ _ _ _ e]; exact k1, k2, k3.mono hle⟩
  · intro b1 b2 B' o1 S1 g1 s1 o2 S2 g2 s2 k0 k1 k2
    by_cases e1 : b1 = st.next
    · by_cases e2 : b2 = st.next
      · rw [e1, e2]
      · subst e1
        rw [Pm.tell_same] at k1
        rw [Pm.tell_other _ _ _ _ e2] at k2
        cases k1
        exact absurd rfl (hB _ _ _ _ _ _ k2)
    · rw [Pm.tell_other _ _ _ _ e1] at k1
      by_cases e2 : b2 = st.next
      · subst e2
        rw [Pm.tell_same] at k2
        cases k2
        exact absurd rfl (hB _ _ _ _ _ _ k1)
      · rw [Pm.tell_other _ _ _ _ e2] at k2
        exact h.inj _ _ _ _ _ _ _ _ _ _ _ k0 k1 k2
  · intro c B' o S' g' s' k
    by_cases e : c = st.next
    · subst e; rw [Pm.tell_same] at k; cases k; exact hlt
    · rw [Pm.tell_other _ _ _ _ e] at k
      exact h.used _ _ _ _ _ _ k
  · refine ⟨fun r hr => ?_, fun r v k => ?_⟩
    · have hv := h.sym.1 r hr
      rw [Pm.tell_other _ _ _ _ (fun e => by subst e; rw [hv] at hb; cases hb)]; exact hv
    · by_cases e : r = st.next
      · subst e; rw [Pm.tell_same] at k; cases k
      · rw [Pm.tell_other _ _ _ _ e] at k; exact h.sym.2 r v k
  · rw [Pm.tell_other _ _ _ _ (by omega)]; exact hn
  · show (st.heap.put st.next _).get c = _
    rw [Tr.get_put_eq, if_neg (by omega)]
theorem plain_LR {φ : Pm} {l : List Value} (h : l.all (plainB 3) = true) : LR φ l l := ⟨rfl, fun i x y hx hy => by
  rw [hx] at hy; cases hy
  exact plain_refl 3 _ (List.all_eq_true.1 h _ (List.mem_of_getElem? hx))⟩
end Go.Ev

