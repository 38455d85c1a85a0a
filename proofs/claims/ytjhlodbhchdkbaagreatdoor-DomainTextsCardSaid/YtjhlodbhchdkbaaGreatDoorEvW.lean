/-
  A run that begins in the midst of a call: rows that lie in the world are read, and the rest of the code is run to its end.
-/
import Derived.Test.YtjhlodbhchdkbaaGreatDoorEvM7
namespace Go.Ev
open Go Go.RowKit

/-- A row that lies in the world: where, what it holds for the run, and what it holds. -/
structure Rw where
  B : Nat
  off : Nat
  cs : List Value
  vs : List Value
def rowS (w : World) (r : Rw) : Nat := match w.heap[r.B]? with
  | some (.cells arr _ _) => arr.size
  | _ => 0
def rowsφ (w0 : W0) (rs : List Rw) : Pm := fun r => if r < w0.m then .val (w0.env r) else match rs[r - w0.m]? with
  | some x => .live x.B x.off (rowS w0.w x) true 0
  | none => .none
def heapOf (m : Nat) : List Rw → Nat → Tr Ob → Tr Ob
  | [], _, t => t
  | x :: xs, i, t => heapOf m xs (i + 1) (t.put (m + i) (some (.bytes x.cs 0)))
theorem heapOf_get (m : Nat) : ∀ (rs : List Rw) (i : Nat) (t : Tr Ob) (b : Nat), (heapOf m rs i t).get b = if m + i ≤ b ∧ b < m + i + rs.length then (rs[b - (m + i)]?).map (fun x => Ob.bytes x.cs 0) else t.get b
  | [], i, t, b => by
    have : ¬ (m + i ≤ b ∧ b < m + i + ([] : List Rw).length) := by simp
    rw [if_neg this]; rfl
  | x :: xs, i, t, b => by
    simp only [heapOf, heapOf_get m xs, Tr.get_put_eq, List.length_cons]
    by_cases h1 : m + (i + 1) ≤ b ∧ b < m + (i + 1) + xs.length
    · rw [if_pos h1, if_pos (by omega), show b - (m + i) = (b - (m + (i + 1))) + 1 by omega, List.getElem?_cons_succ]
    · rw [if_neg h1]
      by_cases e : b = m + i
      · subst e
        rw [if_pos rfl, if_pos (by omega)]
        simp
      · rw [if_neg e, if_neg (by omega)]
/-- What lies in the world. -/
def Rw.lies (φ : Pm) (w : World) (x : Rw) : Prop := LR φ x.cs x.vs ∧ x.B < w.heap.size ∧ ∃ arr e fz, w.heap[x.B]? = some (.cells arr e fz) ∧ (arr.toList.drop x.off).take x.vs.length = x.vs ∧ x.off + x.vs.length ≤ arr.size
theorem rw_of_cells {w : World} {B off : Nat} {vs : List Value} (hp : 0 < vs.length) (h : ∀ i (hi : i < vs.length), w.cell? ⟨B, off + i, none⟩ = some vs[i]) :
    B < w.heap.size ∧ ∃ arr e fz, w.heap[B]? = some (.cells arr e fz) ∧ (arr.toList.drop off).take vs.length = vs ∧ off + vs.length ≤ arr.size := by
  have h0 := h 0 hp
  unfold World.cell? at h0
  split at h0
  · rename_i arr e fz hb
    refine ⟨?_, arr, e, fz, hb, ?_, ?_⟩
    · rcases Nat.lt_or_ge B w.heap.size with h' | h'
      · exact h'
      · simp [Array.getElem?_eq_none h'] at hb
    · have hall : ∀ i (hi : i < vs.length), arr[off + i]? = some vs[i] := fun i hi => by
        have := h i hi
        simp [World.cell?, hb] at this
        exact this
      apply List.ext_getElem?
      intro i
      by_cases hi : i < vs.length
      · rw [List.getElem?_take, if_pos hi, List.getElem?_drop]
        have := hall i hi
        simp only [List.getElem?_eq_getElem hi]
        rw [← this]; simp
      · rw [List.getElem?_take, if_neg hi, List.getElem?_eq_none (by omega)]
    · have := h (vs.length - 1) (by omega)
      simp [World.cell?, hb] at this
      have := (Array.getElem?_eq_some_iff.1 this).1
      omega
  · cases h0
theorem HR.rows (w0 : W0) (rs : List Rw) (hl : ∀ x ∈ rs, x.lies (rowsφ w0 rs) w0.w) : HR w0 (rowsφ w0 rs) ⟨heapOf w0.m rs 0 .leaf, w0.m + rs.length⟩ w0.w := by
  have live : ∀ b B o S g s, rowsφ w0 rs b = .live B o S g s → w0.m ≤ b ∧ ∃ x, rs[b - w0.m]? = some x ∧ B = x.B ∧ o = x.off ∧ S = rowS w0.w x ∧ g = true ∧ s = 0 := by
    intro b B o S g s h
    unfold rowsφ at h
    split at h
    · cases h
    · rename_i hb
      split at h
      · rename_i x hx
        cases h
        exact ⟨by omega, x, hx, rfl, rfl, rfl, rfl, rfl⟩
      · cases h
  refine ⟨⟨rfl, rfl, rfl, Nat.le_refl _, fun _ _ => rfl⟩, fun b hb => ?_, fun b hb => ?_, fun b ob h hn => ?_, fun b1 b2 B o1 S1 g1 s1 o2 S2 g2 s2 k0 k1 k2 => ?_, fun b B o S g s h => ?_, ?_⟩
  · simp only at hb
    unfold rowsφ
    rw [if_neg (by omega), List.getElem?_eq_none (by omega)]
  · simp only at hb ⊢
    rw [heapOf_get, if_neg (by omega), Tr.get_leaf]
  · simp only at h
    rw [heapOf_get] at h
    split at h
    · rename_i hb
      simp only [Nat.add_zero] at h hb
      cases hx : rs[b - w0.m]? with
      | none => rw [hx] at h; cases h
      | some x =>
        rw [hx] at h
        simp only [Option.map_some, Option.some.injEq] at h
        subst h
        obtain ⟨h1, h2, arr, e, fz, h3, h4, h5⟩ := hl x (List.mem_of_getElem? hx)
        refine ⟨x.B, x.off, rowS w0.w x, true, 0, ?_, (fun h => by cases h), arr, e, fz, h3, ?_, ?_, ?_⟩
        · unfold rowsφ; rw [if_neg (by omega), hx]
        · unfold rowS; rw [h3]
        · unfold rowS; rw [h3, h1.1]; exact h5
        · rw [h1.1, h4]; exact h1
    · rw [Tr.get_leaf] at h; cases h
  · obtain ⟨_, x, hx, rfl, _⟩ := live _ _ _ _ _ _ k1
    have := (hl x (List.mem_of_getElem? hx)).2.1
    omega
  · obtain ⟨_, x, hx, rfl, _⟩ := live _ _ _ _ _ _ h
    exact (hl x (List.mem_of_getElem? hx)).2.1
  · refine ⟨fun r hr => ?_, fun r v h => ?_⟩
    · unfold rowsφ; rw [if_pos hr]
    · unfold rowsφ at h
      split at h
      · cases h; rfl
      · split at h <;> cases h
theorem rowsφ_sy (w0 : W0) (rs : List Rw) : Sy w0 (rowsφ w0 rs) := ⟨fun r hr => by unfold rowsφ; rw [if_pos hr], fun r v h => by
  unfold rowsφ at h
  split at h
  · cases h; rfl
  · split at h <;> cases h⟩
theorem row_slice {w0 : W0} {rs : List Rw} {i : Nat} {x : Rw} (hx : rs[i]? = some x) {k l c c' : Nat} (hc : l ≤ c') (hlie : x.off + k ≤ rowS w0.w x) : VR (rowsφ w0 rs) (.slice (some ⟨w0.m + i, k, none⟩) l c) (.slice (some ⟨x.B, x.off + k, none⟩) l c') := by
  have e : rowsφ w0 rs (w0.m + i) = .live x.B x.off (rowS w0.w x) true 0 := by unfold rowsφ; rw [if_neg (by omega), show w0.m + i - w0.m = i by omega, hx]
  refine .slice ?_ ?_
  · unfold AR; simp only [e]; simp
  · unfold CR; simp only [e]; simp; exact ⟨hc, hlie⟩
theorem row_ptr {w0 : W0} {rs : List Rw} {i : Nat} {x : Rw} (hx : rs[i]? = some x) (k : Nat) : VR (rowsφ w0 rs) (.pointer (some ⟨w0.m + i, k, none⟩)) (.pointer (some ⟨x.B, x.off + k, none⟩)) := by
  have e : rowsφ w0 rs (w0.m + i) = .live x.B x.off (rowS w0.w x) true 0 := by unfold rowsφ; rw [if_neg (by omega), show w0.m + i - w0.m = i by omega, hx]
  refine .ptr ?_
  unfold AR; simp only [e]; simp

/-- A frame of which some slots are told. -/
def frT : List (Nat × Value) → Tr Value → Tr Value
  | [], t => t
  | (i, v) :: l, t => frT l (t.put i (some v))
def frOf (size : Nat) (l : List (Nat × Value)) : Fr := ⟨frT l .leaf, size, []⟩
theorem frT_get : ∀ (l : List (Nat × Value)) (t : Tr Value) (n : Nat) (v : Value), (frT l t).get n = some v → (n, v) ∈ l ∨ t.get n = some v
  | [], _, _, _, h => .inr h
  | (i, u) :: l, t, n, v, h => by
    rcases frT_get l _ n v h with h | h
    · exact .inl (List.mem_cons_of_mem _ h)
    · rw [Tr.get_put_eq] at h
      split at h
      · rename_i e; cases h; subst e; exact .inl (List.mem_cons_self ..)
      · exact .inr h
theorem frOf_ok {φ : Pm} {size : Nat} {l : List (Nat × Value)} {a : Act} (hs : a.tmps.size = size) (hd : a.defers = []) (h : ∀ x ∈ l, VR φ x.2 (a.tmps.getD x.1 undef)) : FrR φ (frOf size l) a := by
  refine ⟨hs, fun t v e => ?_, by rw [hd]; exact .nil⟩
  rcases frT_get l .leaf t v e with h1 | h1
  · exact h _ h1
  · rw [Tr.get_leaf] at h1; cases h1

/-- The rest of a call's code, run to its return. -/
def restB (P : Program) (oo : OpO) (call : CallF) (N : Nat) (C : Code) (rs : List ResultVar) (f : Fr) (st : St) (v : Value) : Bool := match evC P oo call N C f st with
  | some (.ret, f', st') => match f'.defers, ares P st' f' rs with
    | [], some vs => veq 8 (ares1 vs) v
    | _, _ => false
  | _ => false
theorem rest_ok {P : Program} {oo : OpO} (hm : P.follows .mixedOrders = true) {call : CallF} {w0 : W0} (hcall : CallOk P oo w0 call) {N : Nat} {C : Code} {fn : Func} {f : Fr} {st : St} {v : Value} (hv : plainB 3 v = true)
    (h : restB P oo call N C fn.results.toList f st v = true) {φ : Pm} {a : Act} {w : World} (H : HR w0 φ st w) (F : FrR φ f a) {Q : Exit → Act → World → Prop}
    (hQ : ∀ a' w', (results fn a'.tmps).run P w' = .ok v w' → a'.defers = [] → Below w0.w.heap.size w0.w w' → Q .ret a' w') : C.wp P Q a w := by
  unfold restB at h
  split at h
  · rename_i f' st' he
    split at h
    · rename_i vs hd hvs
      refine evC_wp hm hcall N C _ _ _ _ _ he φ a w H F Q fun φ' a' w' H' K' F' => ?_
      obtain ⟨vs', k1, k2⟩ := ares_ok H' F' _ _ hvs
      have hdef : a'.defers = [] := by
        have := F'.defers
        rw [hd] at this
        exact this.nil_inv
      have hk := k2.ares1
      rw [veq_eq h] at hk
      have e := plain_eq 3 v _ hv hk
      have hr := run_results k1
      rw [e] at hr
      exact hQ a' w' hr hdef H'.below
    · cases h
  · cases h
/-- A region, run to one slot's value. -/
def regB (P : Program) (oo : OpO) (call : CallF) (ops : Array Oper) (d : Bool) (f : Fr) (st : St) (t : Nat) (v : Value) : Bool := match evReg P oo call ops d f st with
  | some (f', _) => match f'.defers, f'.tmps.get t with
    | [], some u => veq 8 u v
    | _, _ => false
  | none => false
theorem reg_ok {P : Program} {oo : OpO} (hm : P.follows .mixedOrders = true) {call : CallF} {w0 : W0} (hcall : CallOk P oo w0 call) {id : Nat} {ops : Array Oper} {d : Bool} {f : Fr} {st : St} {t : Nat} {v : Value} (hv : plainB 3 v = true)
    (h : regB P oo call ops d f st t v = true) {φ : Pm} {a : Act} {w : World} (H : HR w0 φ st w) (F : FrR φ f a) {Q : Exit → Act → World → Prop}
    (hQ : ∀ a' w', a'.tmps.getD t undef = v → a'.defers = [] → Below w0.w.heap.size w0.w w' → Q .normal a' w') : (Code.region id ops d).wp P Q a w := by
  unfold regB at h
  split at h
  · rename_i f' st' he
    split at h
    · rename_i u hd hu
      refine evReg_wp hm hcall he H F fun φ' a' w' H' K' F' => ?_
      have hdef : a'.defers = [] := by
        have := F'.defers
        rw [hd] at this
        exact this.nil_inv
      have hk := F'.tmps _ _ hu
      rw [veq_eq h] at hk
      exact hQ a' w' (plain_eq 3 v _ hv hk) hdef H'.below
    · cases h
  · cases h
end Go.Ev

