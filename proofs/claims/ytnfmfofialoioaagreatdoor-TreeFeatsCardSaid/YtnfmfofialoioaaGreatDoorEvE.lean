/-
  Single operations that make or turn memory: append, copy, make, slices, literals.
-/
import Derived.Test.YtnfmfofialoioaaGreatDoorEvD
namespace Go.Ev
open Go Go.RowKit

/-! ### slices of slices and strings -/
def bnd (v : Option Value) (d : Nat) : Option Nat := match v with
  | none => some d
  | some (.int _ n) => if decide (0 ≤ n) then some n.toNat else none
  | _ => none
theorem run_bounds {P : Program} {w : World} {b : Bool} {len cap : Nat} {lo hi : Option Value} {l h : Nat} (hl : bnd lo 0 = some l) (hh : bnd hi len = some h) (h1 : l ≤ h) (h2 : h ≤ cap) :
    (Instr.sliceBounds b len cap lo hi none).run P w = .ok (l, h, cap) w := by
  have key : ∀ (v : Option Value) (d k : Nat), bnd v d = some k → (v = none ∧ d = k) ∨ ∃ kk n, v = some (.int kk n) ∧ 0 ≤ n ∧ n.toNat = k := by
    intro v d k hv
    unfold bnd at hv
    split at hv
    · cases hv; exact .inl ⟨rfl, rfl⟩
    · split at hv
      · rename_i kk n h0; cases hv; exact .inr ⟨kk, n, rfl, by simpa using h0, rfl⟩
      · cases hv
    · cases hv
  rcases key lo 0 l hl with ⟨rfl, rfl⟩ | ⟨k1, n1, rfl, a1, rfl⟩ <;> rcases key hi len h hh with ⟨rfl, rfl⟩ | ⟨k2, n2, rfl, a2, rfl⟩
  · simp [Instr.sliceBounds]
  · have : n2 ≤ (cap : Int) := by omega
    simp [Instr.sliceBounds, Instr.sliceBound, asIntOf, a2, this]
  · have : n1 ≤ (len : Int) := by omega
    simp [Instr.sliceBounds, Instr.sliceBound, asIntOf, a1, this]
  · have e1 : n1 ≤ n2 := by omega
    have e2 : n2 ≤ (cap : Int) := by omega
    have e3 : ((n2.toNat : Nat) : Int) = n2 := by omega
    simp [Instr.sliceBounds, Instr.sliceBound, asIntOf, a1, a2, e1, e2, e3]

def optE (E : Operand → Option Value) (x : Option Operand) : Option (Option Value) := match x with
  | none => some none
  | some x => match E x with
    | some v => some (some v)
    | none => none

def aslice (P : Program) (st : St) (t : TypeId) (x : Value) (lo hi : Option Value) : Option Value :=
  match P.underlying t, x with
  | some .string, .string s => match bnd lo 0, bnd hi s.data.toList.length with
    | some l, some h => if Nat.ble l h && Nat.ble h s.data.toList.length && (!isMark s && !isMark ⟨⟨(s.data.toList.drop l).take (h - l)⟩⟩) then some (strB ((s.data.toList.drop l).take (h - l))) else none
    | _, _ => none
  | some (.slice e), .slice none len cap => match bnd lo 0, bnd hi len, sizeB P e with
    | some l, some h, some _ => if Nat.ble l h && Nat.ble h cap then some (.slice none (h - l) (cap - l)) else none
    | _, _, _ => none
  | some (.slice e), .slice (some a) len cap => match bnd lo 0, bnd hi len, sizeB P e, st.heap.get a.block with
    | some l, some h, some n, some (.cells _ _ g s) =>
      if g then
        if Nat.ble l h && Nat.ble h len && (Nat.beq l 0 || Nat.blt l h) && Nat.beq n s then some (.slice (some (a.add (l * n))) (h - l) (h - l)) else none
      else
        if Nat.ble l h && Nat.ble h cap then some (.slice (some (if cap = l then a else a.add (l * n))) (h - l) (cap - l)) else none
    | _, _, _, _ => none
  | _, _ => none
theorem bnd_rel {φ : Pm} {v v' : Option Value} (h : match v, v' with | none, none => True | some a, some b => VR φ a b | _, _ => False) {d k : Nat} (hb : bnd v d = some k) : bnd v' d = some k := by
  cases v with
  | none => cases v' with
    | none => exact hb
    | some b => exact h.elim
  | some a => cases v' with
    | none => exact h.elim
    | some b =>
      simp only at h
      unfold bnd at hb
      split at hb
      · simp at *
      · rename_i kk n e
        cases e
        cases h with
        | leaf => simpa [bnd] using hb
      · cases hb
theorem ok_slice {P : Program} {w0 : W0} {w : World} {φ : Pm} {st : St} (H : HR w0 φ st w) {t : TypeId} {x x' : Value} {lo lo' hi hi' : Option Value} (hx : VR φ x x')
    (hlo : match lo, lo' with | none, none => True | some a, some b => VR φ a b | _, _ => False) (hhi : match hi, hi' with | none, none => True | some a, some b => VR φ a b | _, _ => False)
    {v : Value} (h : aslice P st t x lo hi = some v) :
    Out.ok P w0 φ st w (do pure (.value (← Instr.sliceAt t x' lo' hi' none))) (.val v) := by
  unfold aslice at h
  split at h
  · rename_i s hu
    split at h
    · rename_i l hh hl hh'
      split at h
      · rename_i hb
        simp only [Bool.and_eq_true, Bool.not_eq_true'] at hb
        obtain ⟨⟨b1, b2⟩, m1, m2⟩ := hb
        have b1 := Nat.le_of_ble_eq_true b1
        have b2 := Nat.le_of_ble_eq_true b2
        cases h
        have hsz : s.data.toList.length = s.size := by simp
        rw [hsz] at hh' b2
        cases hx with
        | opq hm => rw [m1] at hm; cases hm
        | leaf =>
          have hr := run_bounds (P := P) (w := w) (b := false) (bnd_rel hlo hl) (bnd_rel hhi hh') b1 b2
          refine val_of ?_ (.leaf (by show (!isMark _) = true; rw [m2]; rfl))
          simp only [Instr.sliceAt, Sem.run_bind, run_underlying hu, Result.andThen_ok, Instr.slice, Option.isSome_none, Bool.false_eq_true, if_false, hr, Sem.run_pure, strB]
          congr 2
          obtain ⟨⟨q⟩⟩ := s
          exact ByteArray.extract_mk q l hh
      · cases h
    · cases h
  · rename_i e len cap hu
    split at h
    · rename_i l hh n hl hh' hn
      split at h
      · rename_i hb
        simp only [Bool.and_eq_true] at hb
        obtain ⟨b1, b2⟩ := hb
        have b1 := Nat.le_of_ble_eq_true b1
        have b2 := Nat.le_of_ble_eq_true b2
        cases h
        cases hx with
        | leaf =>
          have hr := run_bounds (P := P) (w := w) (b := true) (bnd_rel hlo hl) (bnd_rel hhi hh') b1 b2
          refine val_of ?_ (.leaf (v := .slice none (hh - l) (cap - l)) rfl)
          simp [Instr.sliceAt, run_underlying hu, Instr.slice, hr, run_size hn]
      · cases h
    · cases h
  · rename_i e a len cap hu
    split at h
    · rename_i l hh n cs el g s hl hh' hn hg
      cases hx with
      | leaf hl => simp [leafB] at hl
      | @slice _ a' _ _ cap' ha hc =>
        obtain ⟨B, o, S, g', s', k1, k2, k3, k4, arr, k5, k6, k7, k8, k9⟩ := H.obj _ _ hg ha.ne
        subst k3
        subst k4
        have ha0 := ha
        unfold AR at ha
        unfold CR at hc
        simp only [k1] at ha hc
        split at h
        · rename_i hgt
          subst hgt
          split at h
          · rename_i hb
            simp only [Bool.and_eq_true, Bool.or_eq_true] at hb
            obtain ⟨⟨⟨b1, b2⟩, b3⟩, b4⟩ := hb
            have b1 := Nat.le_of_ble_eq_true b1
            have b2 := Nat.le_of_ble_eq_true b2
            have b4 := Nat.eq_of_beq_eq_true b4
            have b3 : l = 0 ∨ l < hh := b3.imp (fun h => Nat.eq_of_beq_eq_true h) (fun h => by simp [Nat.blt] at h; omega)
            cases h
            simp only [if_true] at hc
            obtain ⟨c1, c2⟩ := hc
            have hr := run_bounds (P := P) (w := w) (b := true) (bnd_rel hlo hl) (bnd_rel hhi hh') b1 (Nat.le_trans b2 c1)
            have haddr : (if cap' = l then some a' else some (a'.add (l * n))) = some (a'.add (l * n)) := by
              split
              · rename_i e
                rcases b3 with b3 | b3
                · subst b3; simp [Addr.add]
                · omega
              · rfl
            refine val_of (v' := .slice (some (a'.add (l * n))) (hh - l) (cap' - l)) ?_ (.slice (ha0.add _) ?_)
            · simp [Instr.sliceAt, run_underlying hu, Instr.slice, hr, run_size hn, haddr]
            · unfold CR
              have hbk : (a.add (l * n)).block = a.block := by unfold Addr.add; split <;> rfl
              have hof : (a.add (l * n)).off = a.off + l * n := by unfold Addr.add; split <;> simp_all
              rw [hbk, k1, hof]
              simp only [if_true]
              refine ⟨by omega, ?_⟩
              subst b4
              have : l * n + (cap' - l) * n = cap' * n := by rw [← Nat.add_mul]; congr 1; omega
              omega
          · cases h
        · rename_i hgf
          have hgf : g' = false := by simpa using hgf
          subst hgf
          split at h
          · rename_i hb
            simp only [Bool.and_eq_true] at hb
            obtain ⟨b1, b2⟩ := hb
            have b1 := Nat.le_of_ble_eq_true b1
            have b2 := Nat.le_of_ble_eq_true b2
            cases h
            simp only [Bool.false_eq_true, if_false] at hc
            subst cap'
            have hr := run_bounds (P := P) (w := w) (b := true) (bnd_rel hlo hl) (bnd_rel hhi hh') b1 b2
            have hbk : (if cap = l then a else a.add (l * n)).block = a.block := by split; rfl; unfold Addr.add; split <;> rfl
            refine val_of (v' := .slice (some (if cap = l then a' else a'.add (l * n))) (hh - l) (cap - l)) ?_ (.slice ?_ ?_)
            · simp only [Instr.sliceAt, Sem.run_bind, run_underlying hu, Result.andThen_ok, Instr.slice, hr, run_size hn, Sem.run_pure, Option.map_some]
              split <;> rfl
            · split
              · exact ha0
              · exact ha0.add _
            · unfold CR
              rw [hbk, k1]
              simp
          · cases h
    · cases h
  · cases h
end Go.Ev
