/-
  A loop over a function that goes through a list's elements, where the function may write variables of its own between two rounds, and a round may stop it by returning.
-/
import Derived.RangeFuncWrites
import Derived.RangeFuncLeaves
import Derived.RangeFuncBox
import Derived.Test.YtjhlodbhchdkbaaGreatDoorRows
namespace Go.Proofs.YtjhlodbhchdkbaaGreatDoor
open Go Go.RowKit

/-- What a function that is ranged over does with the elements 'all', one behind the other: 'st' are its own steps between two rounds, 'kp' is what a round must keep for it; a round that answers false ends it at once. -/
def GoesTill {α : Type} (F : Fence) (n : Nat) (P : Program) (gf : Nat) (lb : Array Value) (encs : α → Array Value) (st kp : World → World → Prop) (all : List α) (Ok : World → Prop) : Prop :=
  ∀ (l : Nat) (J : List α → World → Prop) (Jx : World → Prop) (W : World), Ok W → (∀ pre X Y, J pre X → st X Y → J pre Y) →
    (∀ pre x suf X, all = pre ++ x :: suf → J pre X → YieldAt F (n - 1) P l (encs x) X fun e Y => (e = .returned (.bool true) ∧ J (pre ++ [x]) Y ∧ kp X Y) ∨ (e = .returned (.bool false) ∧ Jx Y)) →
    J [] W → CallsIn F n P gf (#[.func (.yield l) #[] #[]] ++ lb) W fun e Y => (∃ v, e = .returned v) ∧ (J all Y ∨ Jx Y)

theorem range_till {F : Fence} {n : Nat} {P : Program} {α : Type} {g : Operand} {ps : Array Tmp} {assign body : Code} {Q : Exit → Act → World → Prop} {a : Act} {w : World}
    (hro : F.round = none) (h1 : 1 ≤ n) {gf : Nat} {lb : Array Value} (hg : a.eval g = .func (.func gf) #[] lb) (hFg : F.fn gf) (eg : ∀ args w, (callFunc gf args).run P w = .ok (.enter gf args) w)
    {encs : α → Array Value} (hps : ∀ x, (encs x).size = ps.size) {st kp : World → World → Prop} {all : List α} {Ok : World → Prop} (hseq : GoesTill F (n - 1) P gf lb encs st kp all Ok)
    (hst : ∀ X Y, st X Y → ∀ k, w.heap.size ≤ k → k < w.heap.size + 2 → Y.heap[k]? = X.heap[k]?)
    (hkt : ∀ {X Y Z}, kp X Y → kp Y Z → kp X Z) (hkb : ∀ X k o, w.heap.size ≤ k → k < w.heap.size + 2 → kp X (X.putObj k o))
    (I : List α → World → Prop) (Ix : World → Prop) (hIs : ∀ pre X Y, I pre X → st X Y → I pre Y)
    (hIb : ∀ pre X k r o, I pre X → w.heap.size ≤ k → k < w.heap.size + 2 → X.heap[k]? = some r → r.isCells = false → I pre (X.putObj k o))
    (hXb : ∀ X k r o, Ix X → w.heap.size ≤ k → k < w.heap.size + 2 → X.heap[k]? = some r → r.isCells = false → Ix (X.putObj k o))
    (hI0 : ∀ o1 o2 : Obj, o1.isCells = false → o2.isCells = false → I [] ((w.alloc o1).alloc o2) ∧ Ok ((w.alloc o1).alloc o2)) (a₁ : α → Act)
    (hassign : ∀ (l : Nat) (x : α) (W : World) (K : Act → World → Prop), K (a₁ x) W →
      assign.wpIn (F.inRound l) (n - 1 - 1) P (Exit.then K (fun _ _ _ => False)) { tmps := (ps.zip (encs x)).foldl (fun t (p, v) => t.setIfInBounds p v) a.tmps, defers := [] } W)
    (hbody : ∀ (l : Nat) (pre : List α) (x : α) (suf : List α) (W : World), all = pre ++ x :: suf → I pre W → body.wpIn (F.inRound l) (n - 1 - 1) P (fun e _ Y => KeepsOthers W Y ∧ ((e = .normal ∧ kp W Y ∧ I (pre ++ [x]) Y) ∨ (e = .ret ∧ Ix Y))) (a₁ x) W)
    (hdone : ∀ (D : Nat) (W : World), w.heap.size ≤ D → I all W → W.heap[D]? = some (.deferred (some [])) → Q .normal { a with defers := { target := .collected D, args := #[] } :: a.defers } W)
    (hstop : ∀ (D : Nat) (W : World), w.heap.size ≤ D → Ix W → W.heap[D]? = some (.deferred (some [])) → Code.ret.wpIn F n P Q { a with defers := { target := .collected D, args := #[] } :: a.defers } W) :
    (Code.rangeFunc g ps assign body).wpIn F n P Q a w := by
  refine wpIn_rangeFunc fun fn hfn => ?_
  rw [hro]
  obtain ⟨R, hR⟩ : ∃ R : LoopState → Option Code → Loop, R = fun s c => { state := s, pending := c, fn, tmps := a.tmps, params := ps, assign, body, defers := w.heap.size } := ⟨_, rfl⟩
  have hz := hI0 (.deferred (some [])) (.loop (R .ready none)) rfl rfl
  have hl0 : ((w.alloc (.deferred (some []))).alloc (.loop (R .ready none))).heap[w.heap.size + 1]? = some (.loop (R .ready none)) := by
    have := World.alloc_heap_new (w.alloc (.deferred (some []))) (.loop (R .ready none))
    rwa [World.size_alloc] at this
  have hd0 : ((w.alloc (.deferred (some []))).alloc (.loop (R .ready none))).heap[w.heap.size]? = some (.deferred (some [])) := (Below.heap_alloc _ _ _ (by simp)).trans (World.alloc_heap_new w _)
  refine ⟨w.heap.size + 1, [{ target := .collected w.heap.size, args := #[] }], (w.alloc (.deferred (some []))).alloc (.loop (R .ready none)), { target := .fn (.func gf) lb, args := #[.func (.yield (w.heap.size + 1)) #[] #[]] }, (w.alloc (.deferred (some []))).alloc (.loop (R .ready none)), gf,
    #[.func (.yield (w.heap.size + 1)) #[] #[]] ++ lb, (w.alloc (.deferred (some []))).alloc (.loop (R .ready none)), ?_, ?_, ?_, ?_, fun _ => h1, ?_⟩
  · rw [hR]; exact run_enterLoop_outer _ _ _ _ _
  · simp only [resolve, hg]
    simp [go_sem]
  · intro f' hf'
    simp [Target.leads] at hf'
    subst hf'
    exact hFg
  · simp [invoke, go_sem, eg]
  · refine (hseq (w.heap.size + 1) (fun pre X => I pre X ∧ X.heap[w.heap.size + 1]? = some (.loop (R .ready none)) ∧ X.heap[w.heap.size]? = some (.deferred (some [])))
      (fun X => Ix X ∧ X.heap[w.heap.size + 1]? = some (.loop (R .done (some .ret))) ∧ X.heap[w.heap.size]? = some (.deferred (some []))) _ hz.2 ?_ ?_ ⟨hz.1, hl0, hd0⟩).mono ?_
    · rintro pre X Y ⟨i, l, d⟩ hs
      exact ⟨hIs _ _ _ i hs, (hst _ _ hs _ (by omega) (by omega)).trans l, (hst _ _ hs _ (Nat.le_refl _) (by omega)).trans d⟩
    · rintro pre x suf X hall ⟨i, l, d⟩
      have hlt : w.heap.size + 1 < X.heap.size := (Array.getElem?_eq_some_iff.1 l).1
      have hy := run_yield (P := P) (args := encs x) l (by rw [hR]; exact hps x)
      rw [hR] at hy
      have l2 : (X.putObj (w.heap.size + 1) (.loop (R .busy none))).heap[w.heap.size + 1]? = some (.loop (R .busy none)) := World.putObj_heap_same hlt
      have d2 : (X.putObj (w.heap.size + 1) (.loop (R .busy none))).heap[w.heap.size]? = some (.deferred (some [])) := (World.putObj_heap_other (by omega)).trans d
      have hbr : (Instr.beginRound (w.heap.size + 1)).run P X = .ok () (X.putObj (w.heap.size + 1) (.loop (R .busy none))) := by
        have := run_beginRound (P := P) l (by rw [hR])
        rw [hR] at this ⊢
        exact this
      refine ⟨fn, _, assign, body, hy, roundIn_of_wpIn hfn (hassign _ x X _ ⟨_, hbr, ?_⟩)⟩
      refine wpIn_mono (hbody _ pre x suf _ hall (hIb _ _ _ _ _ i (by omega) (by omega) l rfl)) ?_
      rintro e a3 Y ⟨ko, ⟨rfl, k3, i3⟩ | ⟨rfl, i3⟩⟩
      · have l3 := ko.same _ _ l2 rfl
        have her : (Instr.endRound (w.heap.size + 1) none).run P Y = .ok (.bool true) (Y.putObj (w.heap.size + 1) (.loop (R .ready none))) := by
          have := run_endRound (P := P) none l3
          rw [hR] at this ⊢
          exact this
        exact ⟨_, _, her, Or.inl ⟨rfl, ⟨hIb _ _ _ _ _ i3 (by omega) (by omega) l3 rfl, World.putObj_heap_same (Array.getElem?_eq_some_iff.1 l3).1, (World.putObj_heap_other (by omega)).trans (ko.same _ _ d2 rfl)⟩, hkt (hkb _ _ _ (by omega) (by omega)) (hkt k3 (hkb _ _ _ (by omega) (by omega)))⟩⟩
      · have l3 := ko.same _ _ l2 rfl
        have her : (Instr.endRound (w.heap.size + 1) (some .ret)).run P Y = .ok (.bool false) (Y.putObj (w.heap.size + 1) (.loop (R .done (some .ret)))) := by
          have := run_endRound (P := P) (some .ret) l3
          rw [hR] at this ⊢
          exact this
        exact ⟨_, _, her, Or.inr ⟨rfl, hXb _ _ _ _ i3 (by omega) (by omega) l3 rfl, World.putObj_heap_same (Array.getElem?_eq_some_iff.1 l3).1, (World.putObj_heap_other (by omega)).trans (ko.same _ _ d2 rfl)⟩⟩
    · rintro e W2 ⟨⟨v, rfl⟩, ⟨i, l, d⟩ | ⟨i, l, d⟩⟩
      · have hel := run_endLoop (P := P) l (by rw [hR]; simp)
        rw [show (R .ready none).pending = none by rw [hR]] at hel
        exact ⟨none, _, hel, hdone _ _ (Nat.le_refl _) (hIb _ _ _ _ _ i (by omega) (by omega) l rfl) ((World.putObj_heap_other (by omega)).trans d)⟩
      · have hel := run_endLoop (P := P) l (by rw [hR]; simp)
        rw [show (R .done (some .ret)).pending = some .ret by rw [hR]] at hel
        exact ⟨some .ret, _, hel, hstop _ _ (Nat.le_refl _) (hXb _ _ _ _ i (by omega) (by omega) l rfl) ((World.putObj_heap_other (by omega)).trans d)⟩
end Go.Proofs.YtjhlodbhchdkbaaGreatDoor
