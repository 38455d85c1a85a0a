/-
  Writing maps; ranges over strings; functions; assertions.
-/
import Derived.Test.YtnfmfofialoioaaGreatDoorEvH
namespace Go.Ev
open Go Go.RowKit

theorem run_setObj {P : Program} {w : World} {B : Nat} {o o' : Obj} (h : w.heap[B]? = some o) (hc : ∀ a b c, o ≠ .cells a b c) : (setObj B o').run P w = .ok () { w with heap := w.heap.setIfInBounds B o' } := by
  cases o <;> first | exact absurd rfl (hc _ _ _) | simp [setObj, Sem.run, h]
theorem set_heap (w : World) (B : Nat) (o o' : Obj) (h : w.heap[B]? = some o) : ({ w with heap := w.heap.setIfInBounds B o' } : World).heap[B]? = some o' := by
  have hlt : B < w.heap.size := (Array.getElem?_eq_some_iff.1 h).1
  simp [hlt]
theorem set_other (w : World) (B k : Nat) (o' : Obj) (h : k ≠ B) : ({ w with heap := w.heap.setIfInBounds B o' } : World).heap[k]? = w.heap[k]? := by
  show (w.heap.setIfInBounds B o')[k]? = _
  rw [Array.getElem?_setIfInBounds_ne (Ne.symm h)]

/-- A map turned where it lies. -/
theorem HR.turnMap {w0 : W0} {w : World} {φ : Pm} {st : St} (H : HR w0 φ st w) {r : Nat} {es : List MapEntry} {clock : Nat} (hr : st.heap.get r = some (.map es clock)) {B : Nat} (hB : MR φ r B)
    {fs : List MapEntry} {fs' : Array MapEntry} {c : Nat} (hf : EsR φ fs fs'.toList) :
    HR w0 φ { st with heap := st.heap.put r (some (.map fs c)) } { w with heap := w.heap.setIfInBounds B (.map fs' c) } ∧ Kept st φ { st with heap := st.heap.put r (some (.map fs c)) } φ := by
  obtain ⟨B', o, S, g, s, k1, k2, es', k3, k4, k5⟩ := H.obj _ _ hr hB.ne
  unfold MR at hB
  simp only [k1] at hB
  subst hB
  refine ⟨H.turn hr k1 (set_heap w _ _ _ k3) (by simp) (fun k hk => set_other w _ k _ hk) rfl rfl rfl ⟨fs', rfl, by simpa using hf.1, fun i e e' a b => hf.2 i e e' a (by simpa using b)⟩,
    Kept.put k1 _⟩

theorem EsR.append1 {φ : Pm} : ∀ {es es' : List MapEntry} {e e' : MapEntry}, EsR φ es es' → ER φ e e' → EsR φ (es ++ [e]) (es' ++ [e'])
  | [], [], e, e', _, k => ⟨rfl, fun i x y a b => by cases i with
    | zero => simp at a b; subst a; subst b; exact k
    | succ i => simp at a⟩
  | [], _ :: _, _, _, h, _ => absurd h.1 (by simp)
  | _ :: _, [], _, _, h, _ => absurd h.1 (by simp)
  | x :: es, x' :: es', e, e', h, k => by
    obtain ⟨h1, h2⟩ := h.cons_inv
    have := h2.append1 k
    refine ⟨by have := this.1; simp at this ⊢; exact this, fun i a b ha hb => ?_⟩
    cases i with
    | zero => simp at ha hb; subst ha; subst hb; exact h1
    | succ i => exact this.2 i a b (by simpa using ha) (by simpa using hb)
theorem EsR.set {φ : Pm} {es es' : List MapEntry} (h : EsR φ es es') (i : Nat) {e e' : MapEntry} (k : ER φ e e') : EsR φ (es.set i e) (es'.set i e') :=
  ⟨by simp [h.1], fun j x y a b => by
    rw [List.getElem?_set] at a b
    by_cases e : i = j
    · subst e
      by_cases hn : i < es.length
      · have hn' : i < es'.length := by rw [← h.1]; exact hn
        simp only [hn, hn', if_true] at a b
        cases a; cases b; exact k
      · simp [hn] at a
    · simp only [e, if_false] at a b; exact h.2 j x y a b⟩
theorem EsR.erase {φ : Pm} : ∀ {es es' : List MapEntry} (_ : EsR φ es es') (i : Nat), EsR φ (es.eraseIdx i) (es'.eraseIdx i)
  | [], [], h, _ => h
  | [], _ :: _, h, _ => absurd h.1 (by simp)
  | _ :: _, [], h, _ => absurd h.1 (by simp)
  | x :: es, x' :: es', h, 0 => by simpa using h.cons_inv.2
  | x :: es, x' :: es', h, i + 1 => by
    obtain ⟨h1, h2⟩ := h.cons_inv
    have := h2.erase i
    refine ⟨by have := this.1; simp at this ⊢; exact this, fun j a b ha hb => ?_⟩
    cases j with
    | zero => simp at ha hb; subst ha; subst hb; exact h1
    | succ j => exact this.2 j a b (by simpa using ha) (by simpa using hb)

def aupdate (P : Program) (st : St) (t : TypeId) (m k v : Value) : Option St :=
  match P.underlying t, m with
  | some (.map kt _), .map (some r) => match st.heap.get r with
    | some (.map es clock) => match afindK P st false kt k es with
        | some (some (i, _)) => match es[i]? with
          | some e => if staysB st e.key k then some { st with heap := st.heap.put r (some (.map (es.set i { e with key := k, val := v }) clock)) } else none
          | none => none
        | some none => some { st with heap := st.heap.put r (some (.map (es ++ [{ key := k, val := v, born := clock }]) (clock + 1))) }
        | none => none
    | _ => none
  | _, _ => none
theorem modify_set {α : Type} (xs : Array α) (i : Nat) (f : α → α) (x : α) (h : xs[i]? = some x) : (xs.modify i f).toList = xs.toList.set i (f x) := by
  apply List.ext_getElem?
  intro j
  have hlt : i < xs.size := (Array.getElem?_eq_some_iff.1 h).1
  rw [Array.getElem?_toList, Array.getElem?_modify, List.getElem?_set]
  by_cases e : i = j
  · subst e
    have hx : xs[i] = x := (Array.getElem?_eq_some_iff.1 h).2
    simp [hlt, hx]
  · simp [e]
theorem ok_update {P : Program} {w0 : W0} {w : World} {φ : Pm} {st st' : St} (H : HR w0 φ st w) {t : TypeId} {m m' k k' v v' : Value} (hm : VR φ m m') (hk : VR φ k k') (hv : VR φ v v') (h : aupdate P st t m k v = some st') :
    Out.ok P w0 φ st w (do Instr.mapUpdate t m' k' v'; pure .skip) (.eff undef st') := by
  unfold aupdate at h
  split at h
  · rename_i kt et r hu
    split at h
    · rename_i es clock hr
      · cases hm with
        | leaf hl => simp [leafB] at hl
        | @map _ B hB =>
          obtain ⟨B', o, S, g, s, k1, k2, es', k3, k4, k5⟩ := H.obj _ _ hr hB.ne
          have hBB : B = B' := by unfold MR at hB; simp only [k1] at hB; exact hB
          rw [← hBB] at k3
          have hE : EsR φ es es'.toList := ⟨by simpa using k4, fun i e e' a b => k5 i e e' a (by simpa using b)⟩
          have hne : ∀ a b c, Obj.map es' clock ≠ .cells a b c := fun a b c e => by cases e
          split at h
          · rename_i i v0 hf
            split at h
            · rename_i e he
              split at h
              · rename_i hs
                cases h
                obtain ⟨hcr, r', f1, f2⟩ := run_afindK H hk hE hf
                match r', f2 with
                | some (i', u), ⟨hi, _⟩ =>
                  subst hi
                  obtain ⟨e', he'⟩ : ∃ e', es'[i']? = some e' := by
                    have hlt : i' < es.length := by
                      rcases Nat.lt_or_ge i' es.length with h' | h'
                      · exact h'
                      · rw [List.getElem?_eq_none h'] at he; cases he
                    exact ⟨es'[i'], by simp [show i' < es'.size by omega]⟩
                  obtain ⟨q1, q2, q3⟩ := k5 i' e e' he he'
                  have hkey := stays_ok H q1 hk hs
                  obtain ⟨m1, m2⟩ := H.turnMap hr hB (c := clock) (fs := es.set i' { e with key := k, val := v }) (fs' := es'.modify i' fun e => { e with key := k', val := v' })
                    (by rw [modify_set _ _ _ _ he']; exact hE.set _ ⟨hk, hv, q3⟩)
                  refine ⟨φ, _, m1, m2, .inr ⟨?_, rfl⟩⟩
                  simp [Instr.mapUpdate, run_underlying hu, run_getMap k3, hcr, f1, he', Instr.keyThatStays, hkey, run_setObj k3 hne]
              · cases h
            · cases h
          · rename_i hf
            cases h
            obtain ⟨hcr, r', f1, f2⟩ := run_afindK H hk hE hf
            match r', f2 with
            | none, _ =>
              obtain ⟨m1, m2⟩ := H.turnMap hr hB (c := clock + 1) (fs := es ++ [{ key := k, val := v, born := clock }]) (fs' := es'.push { key := k', val := v', born := clock })
                (by rw [Array.toList_push]; exact hE.append1 ⟨hk, hv, rfl⟩)
              refine ⟨φ, _, m1, m2, .inr ⟨?_, rfl⟩⟩
              simp [Instr.mapUpdate, run_underlying hu, run_getMap k3, hcr, f1, run_setObj k3 hne]
          · cases h
    · cases h
  · cases h

def adelete (P : Program) (st : St) (t : TypeId) (m k : Value) : Option St :=
  match P.underlying t, m with
  | some (.map kt _), .map (some r) => match st.heap.get r with
    | some (.map es clock) => match afindK P st es.isEmpty kt k es with
        | some (some (i, _)) => some { st with heap := st.heap.put r (some (.map (es.eraseIdx i) clock)) }
        | some none => some { st with heap := st.heap.put r (some (.map es clock)) }
        | none => none
    | _ => none
  | _, _ => none
theorem ok_delete {P : Program} {w0 : W0} {w : World} {φ : Pm} {st st' : St} (H : HR w0 φ st w) {t u ty : TypeId} {m m' k k' : Value} (hm : VR φ m m') (hk : VR φ k k') (h : adelete P st t m k = some st') :
    Out.ok P w0 φ st w (do pure (.value (← Builtin.delete_ #[t, u] ty #[m', k']))) (.eff undef st') := by
  unfold adelete at h
  split at h
  · rename_i kt et r hu
    split at h
    · rename_i es clock hr
      · cases hm with
        | leaf hl => simp [leafB] at hl
        | @map _ B hB =>
          obtain ⟨B', o, S, g, s, k1, k2, es', k3, k4, k5⟩ := H.obj _ _ hr hB.ne
          have hBB : B = B' := by unfold MR at hB; simp only [k1] at hB; exact hB
          rw [← hBB] at k3
          have hE : EsR φ es es'.toList := ⟨by simpa using k4, fun i e e' a b => k5 i e e' a (by simpa using b)⟩
          have hne : ∀ a b c, Obj.map es' clock ≠ .cells a b c := fun a b c e => by cases e
          have hemp : es'.isEmpty = es.isEmpty := by
            rw [Bool.eq_iff_iff, Array.isEmpty_iff_size_eq_zero, List.isEmpty_iff, ← List.length_eq_zero_iff, k4]
          split at h
          · rename_i i v0 hf
            cases h
            obtain ⟨hcr, r', f1, f2⟩ := run_afindK H hk hE hf
            match r', f2 with
            | some (i', u), ⟨hi, _⟩ =>
              subst hi
              obtain ⟨m1, m2⟩ := H.turnMap hr hB (c := clock) (fs := es.eraseIdx i') (fs' := es'.eraseIdxIfInBounds i') (by rw [Array.toList_eraseIdxIfInBounds]; exact hE.erase i')
              refine ⟨φ, _, m1, m2, .inl ⟨undef, ?_, VR.undef _⟩⟩
              simp [Builtin.delete_, run_underlying hu, run_getMap k3, hemp, hcr, f1, run_setObj k3 hne]
              rfl
          · rename_i hf
            cases h
            obtain ⟨hcr, r', f1, f2⟩ := run_afindK H hk hE hf
            match r', f2 with
            | none, _ =>
              obtain ⟨m1, m2⟩ := H.turnMap hr hB (c := clock) (fs := es) (fs' := es') hE
              refine ⟨φ, _, m1, m2, .inl ⟨undef, ?_, VR.undef _⟩⟩
              simp [Builtin.delete_, run_underlying hu, run_getMap k3, hemp, hcr, f1, run_setObj k3 hne]
              rfl
          · cases h
    · cases h
  · cases h

/-! ### ranges over strings -/
def arange (P : Program) (t : TypeId) (x : Value) : Option Out := match P.underlying t, x with
  | some .string, .string s => if isMark s then none else some (.new (.iter s 0) fun b => .pointer (some ⟨b, 0, none⟩))
  | _, _ => none
theorem ok_range {P : Program} {w0 : W0} {w : World} {φ : Pm} {st : St} {t : TypeId} {x x' : Value} (hx : VR φ x x') {u : Out} (h : arange P t x = some u) :
    Out.ok P w0 φ st w (do pure (.value (← Instr.range t x'))) u := by
  unfold arange at h
  split at h
  · rename_i s hu
    split at h
    · cases h
    rename_i hnm
    cases h
    cases hx with
    | opq hm => exact absurd hm hnm
    | leaf =>
      refine ⟨.stringIter s 0, .pointer (some ⟨w.heap.size, 0, none⟩), w.alloc (.stringIter s 0), 0, false, 0, ?_, rfl, rfl, rfl, rfl, ?_⟩
      · simp [Instr.range, run_underlying hu]
      · intro φ' b hle hb
        exact ⟨⟨rfl, rfl⟩, .ptr (by unfold AR; simp [hb])⟩
  · cases h
def anext (st : St) (it : Value) : Option (Value × St) := match it with
  | .pointer (some ⟨b, 0, none⟩) => match st.heap.get b with
    | some (.iter s pos) => if Nat.blt pos s.data.toList.length then
        match Utf8.decode s pos with
        | (c, width) => some (.tuple ⟨[.bool true, goInt pos, .int .i32 c]⟩, { st with heap := st.heap.put b (some (.iter s (pos + width))) })
      else some (.tuple ⟨[.bool false]⟩, st)
    | _ => none
  | _ => none
theorem ok_next {P : Program} {w0 : W0} {w : World} {φ : Pm} {st st' : St} (H : HR w0 φ st w) {ty : TypeId} {x x' : Value} (hx : VR φ x x') {v : Value} (h : anext st x = some (v, st')) :
    Out.ok P w0 φ st w (do pure (.value (← Instr.next x' true ty))) (.eff v st') := by
  unfold anext at h
  split at h
  · rename_i b
    split at h
    · rename_i s pos hb
      cases hx with
      | leaf hl => simp [leafB] at hl
      | ptr ha =>
        obtain ⟨B, o, S, g, z, k1, k2, k0, k3⟩ := H.obj _ _ hb ha.ne
        subst k0
        unfold AR at ha
        simp only [k1] at ha
        obtain ⟨_, rfl⟩ := ha
        have hgo : (getObj B).run P w = .ok (.stringIter s pos) w := by simp [getObj, Sem.run, k3]
        have hne : ∀ a b c, Obj.stringIter s pos ≠ .cells a b c := fun a b c e => by cases e
        split at h
        · rename_i hlt
          have hlt : pos < s.size := by simp [Nat.blt] at hlt; omega
          cases h
          refine ⟨φ, _, H.turn hb k1 (ob := .iter s (pos + (Utf8.decode s pos).2)) (ob' := .stringIter s (pos + (Utf8.decode s pos).2)) (w' := { w with heap := w.heap.setIfInBounds B (.stringIter s (pos + (Utf8.decode s pos).2)) })
            (set_heap w _ _ _ k3) (by simp) (fun k hk => set_other w _ k _ hk) rfl rfl rfl ⟨rfl, rfl⟩, Kept.put k1 _,
            .inl ⟨.tuple #[.bool true, goInt pos, .int .i32 (Utf8.decode s pos).1], ?_, VR.tuple_iff.2 (LR.cons (.leaf rfl) (LR.cons (.leaf rfl) (LR.cons (.leaf rfl) LR.nil)))⟩⟩
          refine run_val ?_
          simp [Instr.next, hgo, hlt, run_setObj k3 hne]
        · rename_i hlt
          have hlt : ¬ pos < s.size := by simp [Nat.blt] at hlt; omega
          cases h
          refine ⟨φ, w, H, Kept.refl _ _, .inl ⟨.tuple #[.bool false], ?_, VR.tuple_iff.2 (LR.cons (.leaf rfl) LR.nil)⟩⟩
          refine run_val ?_
          simp [Instr.next, hgo, hlt]
    · cases h
  · cases h
end Go.Ev
