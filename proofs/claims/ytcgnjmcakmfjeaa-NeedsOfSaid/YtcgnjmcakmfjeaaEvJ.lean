/-
  One operation, told plainly: every kind that closed code needs.
-/
import Derived.Test.YtcgnjmcakmfjeaaEvI
import Derived.Test.YtcgnjmcakmfjeaaEvE
namespace Go.Ev
open Go Go.RowKit

def evL (E : Operand → Option Value) : List Operand → Option (List Value)
  | [] => some []
  | x :: xs => match E x, evL E xs with
    | some v, some vs => some (v :: vs)
    | _, _ => none
def evP (E : Operand → Option Value) : List (Nat × Operand) → Option (List (Nat × Value))
  | [] => some []
  | (i, x) :: xs => match E x, evP E xs with
    | some v, some vs => some ((i, v) :: vs)
    | _, _ => none
theorem evL_ok {φ : Pm} {E : Operand → Option Value} {ρ : Operand → Value} : ∀ {xs : List Operand} {vs : List Value}, (∀ x ∈ xs, ∀ v, E x = some v → VR φ v (ρ x)) → evL E xs = some vs → LR φ vs (xs.map ρ)
  | [], vs, _, h => by cases h; exact LR.nil
  | x :: xs, vs, hx, h => by
    simp only [evL] at h
    split at h
    · rename_i v ws hv hw
      cases h
      exact LR.cons (hx x (by simp) v hv) (evL_ok (fun y hy => hx y (by simp [hy])) hw)
    · cases h
theorem evP_ok {φ : Pm} {E : Operand → Option Value} {ρ : Operand → Value} : ∀ {xs : List (Nat × Operand)} {vs : List (Nat × Value)}, (∀ x ∈ xs.map (·.2), ∀ v, E x = some v → VR φ v (ρ x)) → evP E xs = some vs →
    PR φ vs (xs.map fun p => (p.1, ρ p.2))
  | [], vs, _, h => by cases h; exact ⟨rfl, fun i p p' a => by simp at a⟩
  | (i, x) :: xs, vs, hx, h => by
    simp only [evP] at h
    split at h
    · rename_i v ws hv hw
      cases h
      have ih := evP_ok (fun y hy => hx y (by simp only [List.map_cons, List.mem_cons]; exact .inr hy)) hw
      refine ⟨by simpa using ih.1, fun j p p' a b => ?_⟩
      cases j with
      | zero => simp at a b; subst a; subst b; exact ⟨rfl, hx x (by simp) v hv⟩
      | succ j => exact ih.2 j p p' (by simpa using a) (by simpa using b)
    · cases h

/-! ### type assertions -/
def aassert (P : Program) (x : Value) (asserted : TypeId) (ok : Bool) : Option Value :=
  match P.underlying asserted, x with
  | some (.interface want), .iface t _ => match P.info? t with
    | some i => match Instr.missingMethod want i.methods with
      | none => some (if ok then .tuple ⟨[x, .bool true]⟩ else x)
      | some _ => if ok then match zeroB P asserted with
        | some z => some (.tuple ⟨[z, .bool false]⟩)
        | none => none
        else none
    | none => none
  | some _, .nilIface => if ok then match zeroB P asserted with
    | some z => some (.tuple ⟨[z, .bool false]⟩)
    | none => none
    else none
  | some _, .iface t v => if t = asserted then some (if ok then .tuple ⟨[v, .bool true]⟩ else v)
    else if ok then match zeroB P asserted with
      | some z => some (.tuple ⟨[z, .bool false]⟩)
      | none => none
    else none
  | _, _ => none
theorem VR.yes {φ : Pm} {v v' : Value} (h : VR φ v v') : VR φ (.tuple ⟨[v, .bool true]⟩) (.tuple #[v', .bool true]) := VR.pair h (.leaf rfl)
theorem ok_assert {P : Program} {w0 w : World} {φ : Pm} {st : St} {x x' : Value} {xt t : TypeId} {ok : Bool} (hx : VR φ x x') {v : Value} (h : aassert P x t ok = some v) :
    Out.ok P w0 φ st w (do pure (.value (← Instr.typeAssert x' xt t ok))) (.val v) := by
  have zero : ∀ z, zeroB P t = some z → (zeroValue t).run P w = .ok z w ∧ VR φ (.tuple ⟨[z, .bool false]⟩) (.tuple #[z, .bool false]) := fun z hz => by
    obtain ⟨h1, h2⟩ := run_zero hz w
    exact ⟨h1, VR.pair (plain_refl 3 z h2) (.leaf rfl)⟩
  unfold aassert at h
  split at h
  · rename_i want u v' hu
    cases hx with
    | leaf hl => simp [leafB] at hl
    | iface hv =>
      split at h
      · rename_i i hi
        split at h
        · rename_i hm
          cases h
          cases ok
          · exact val_of (by simp [Instr.typeAssert, run_underlying hu, typeInfo, hi, hm]) (.iface hv)
          · exact val_of (by simp [Instr.typeAssert, run_underlying hu, typeInfo, hi, hm]) (VR.yes (.iface hv))
        · rename_i m hm
          split at h
          · rename_i hok
            subst hok
            split at h
            · rename_i z hz
              cases h
              obtain ⟨z1, z2⟩ := zero z hz
              exact val_of (by simp [Instr.typeAssert, run_underlying hu, typeInfo, hi, hm, z1]) z2
            · cases h
          · cases h
      · cases h
  · rename_i d hu
    split at h
    · rename_i hok
      subst hok
      split at h
      · rename_i z hz
        cases h
        obtain ⟨z1, z2⟩ := zero z hz
        cases hx with
        | leaf => exact val_of (by cases d <;> simp [Instr.typeAssert, run_underlying hu, z1]) z2
      · cases h
    · cases h
  · rename_i d u v' hd hu
    cases hx with
    | leaf hl => simp [leafB] at hl
    | iface hv =>
      split at h
      · rename_i e
        subst e
        cases h
        cases ok
        · refine val_of ?_ hv
          cases d <;> first | exact (hd _ rfl).elim | (simp [Instr.typeAssert, run_underlying hu]; done)
        · refine val_of ?_ (VR.yes hv)
          cases d <;> first | exact (hd _ rfl).elim | (simp [Instr.typeAssert, run_underlying hu]; done)
      · rename_i e
        split at h
        · rename_i hok
          subst hok
          split at h
          · rename_i z hz
            cases h
            obtain ⟨z1, z2⟩ := zero z hz
            refine val_of ?_ z2
            cases d <;> first | exact (hd _ rfl).elim | (simp [Instr.typeAssert, run_underlying hu, e, z1]; done)
          · cases h
        · cases h
  · cases h
end Go.Ev
