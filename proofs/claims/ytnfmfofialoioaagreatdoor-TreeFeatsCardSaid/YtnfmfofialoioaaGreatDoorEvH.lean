/-
  Maps, ranges over strings, functions, assertions.
-/
import Derived.Test.YtnfmfofialoioaaGreatDoorEvG
namespace Go.Ev
open Go Go.RowKit

/-! ### keys -/
def keyEq : Value → Value → Option Bool
  | .int k a, .int k' b => if k = k' then some (a == b) else none
  | .string a, .string b => if isMark b then none else some (a.data.toList == b.data.toList)
  | .bool a, .bool b => some (a == b)
  | _, _ => none
def kindFits : TypeDesc → Value → Bool
  | .int _, .int _ _ => true
  | .string, .string _ => true
  | .bool, .bool _ => true
  | _, _ => false
def afindNow (k : Value) : List MapEntry → Nat → Option (Option (Nat × Value))
  | [], _ => some none
  | e :: es, i => match keyEq k e.key with
    | some true => some (some (i, e.val))
    | some false => afindNow k es (i + 1)
    | none => none
def afindAsk (P : Program) (kt : TypeId) (k : Value) : List MapEntry → Nat → Option (Option (Nat × Value))
  | [], _ => some none
  | e :: es, i => if plainB 4 e.key then match prun P (Op.equal kt k e.key) with
      | some true => some (some (i, e.val))
      | some false => afindAsk P kt k es (i + 1)
      | none => none
    else none
def afind (P : Program) (kt : TypeId) (k : Value) (es : List MapEntry) : Option (Option (Nat × Value)) :=
  match P.underlying kt with
  | some d => if kindFits d k then afindNow k es 0 else match d with
    | .int _ | .string | .bool => none
    | _ => afindAsk P kt k es 0
  | none => none

def EsR (φ : Pm) (es : List MapEntry) (es' : List MapEntry) : Prop := es.length = es'.length ∧ ∀ (i : Nat) (e e' : MapEntry), es[i]? = some e → es'[i]? = some e' → ER φ e e'
theorem EsR.cons_inv {φ : Pm} {e e' : MapEntry} {es es' : List MapEntry} (h : EsR φ (e :: es) (e' :: es')) : ER φ e e' ∧ EsR φ es es' :=
  ⟨h.2 0 e e' rfl rfl, by have := h.1; simpa using this, fun i x y a b => h.2 (i + 1) x y (by simpa using a) (by simpa using b)⟩
def FR (φ : Pm) (r r' : Option (Nat × Value)) : Prop := match r, r' with
  | none, none => True
  | some (i, v), some (i', v') => i' = i ∧ VR φ v v'
  | _, _ => False

theorem keyEq_ok {φ : Pm} {d : TypeDesc} {k x x' : Value} (hd : kindFits d k = true) (hx : VR φ x x') {b : Bool} (h : keyEq k x = some b) : Instr.sameNow d k x' = some b := by
  unfold keyEq at h
  split at h
  · rename_i kk a kk' c
    split at h
    · rename_i e
      cases h
      cases hx with
      | leaf => cases d <;> simp [kindFits] at hd; simp [Instr.sameNow, e]
    · cases h
  · rename_i a c
    split at h
    · cases h
    rename_i hnm
    cases h
    cases hx with
    | opq hm => exact absurd hm hnm
    | leaf => cases d <;> simp [kindFits] at hd; simp [Instr.sameNow, beq_toListBytes, ByteArray.toList_eq]
  · rename_i a c
    cases h
    cases hx with
    | leaf => cases d <;> simp [kindFits] at hd; simp [Instr.sameNow]
  · cases h
theorem afindNow_ok {φ : Pm} {d : TypeDesc} {k : Value} (hd : kindFits d k = true) : ∀ (es es' : List MapEntry) (i : Nat) (r : Option (Nat × Value)), EsR φ es es' → afindNow k es i = some r →
    ∃ r', Instr.findNow d k es' i = some r' ∧ FR φ r r'
  | [], [], i, r, _, h => by simp only [afindNow] at h; cases h; exact ⟨none, rfl, trivial⟩
  | [], _ :: _, _, _, h, _ => absurd h.1 (by simp)
  | _ :: _, [], _, _, h, _ => absurd h.1 (by simp)
  | e :: es, e' :: es', i, r, he, h => by
    obtain ⟨⟨h1, h2, h3⟩, h4⟩ := he.cons_inv
    simp only [afindNow] at h
    split at h
    · rename_i hk
      cases h
      exact ⟨some (i, e'.val), by simp only [Instr.findNow, keyEq_ok hd h1 hk], rfl, h2⟩
    · rename_i hk
      obtain ⟨r', k1, k2⟩ := afindNow_ok hd es es' (i + 1) r h4 h
      exact ⟨r', by simp only [Instr.findNow, keyEq_ok hd h1 hk]; exact k1, k2⟩
    · cases h
theorem afindAsk_ok {P : Program} {w : World} {φ : Pm} {kt : TypeId} {k : Value} : ∀ (es es' : List MapEntry) (i : Nat) (r : Option (Nat × Value)), EsR φ es es' → afindAsk P kt k es i = some r →
    ∃ r', (Instr.findAsking kt k es' i).run P w = .ok r' w ∧ FR φ r r'
  | [], [], i, r, _, h => by simp only [afindAsk] at h; cases h; exact ⟨none, rfl, trivial⟩
  | [], _ :: _, _, _, h, _ => absurd h.1 (by simp)
  | _ :: _, [], _, _, h, _ => absurd h.1 (by simp)
  | e :: es, e' :: es', i, r, he, h => by
    obtain ⟨⟨h1, h2, h3⟩, h4⟩ := he.cons_inv
    simp only [afindAsk] at h
    split at h
    · rename_i hp
      have hk := plain_eq 4 _ _ hp h1
      split at h
      · rename_i hq
        cases h
        have := prun_run _ _ hq w
        exact ⟨some (i, e'.val), by simp only [Instr.findAsking, Sem.run_bind, hk, this, Result.andThen_ok, if_true, Sem.run_pure], rfl, h2⟩
      · rename_i hq
        have := prun_run _ _ hq w
        obtain ⟨r', k1, k2⟩ := afindAsk_ok es es' (i + 1) r h4 h
        exact ⟨r', by simp only [Instr.findAsking, Sem.run_bind, hk, this, Result.andThen_ok, Bool.false_eq_true, if_false]; exact k1, k2⟩
      · cases h
    · cases h
theorem run_afind {P : Program} {w : World} {φ : Pm} {kt : TypeId} {k : Value} {es es' : List MapEntry} (he : EsR φ es es') {r : Option (Nat × Value)} (h : afind P kt k es = some r) :
    ∃ r', (Instr.findKey kt k es').run P w = .ok r' w ∧ FR φ r r' := by
  unfold afind at h
  split at h
  · rename_i d hd
    split at h
    · rename_i hk
      obtain ⟨r', k1, k2⟩ := afindNow_ok hk es es' 0 r he h
      exact ⟨r', by simp only [Instr.findKey, Sem.run_bind, run_underlying hd, Result.andThen_ok, k1, Sem.run_pure], k2⟩
    · have key : (∀ k, d ≠ .int k) → d ≠ .string → d ≠ .bool → afindAsk P kt k es 0 = some r → ∃ r', (Instr.findKey kt k es').run P w = .ok r' w ∧ FR φ r r' := by
        intro n1 n2 n3 h
        cases es' with
        | nil =>
          cases es with
          | nil =>
            simp only [afindAsk] at h
            cases h
            exact ⟨none, by simp [Instr.findKey, run_underlying hd, Instr.findNow], trivial⟩
          | cons e es => exact absurd he.1 (by simp)
        | cons e' es' =>
          obtain ⟨r', k1, k2⟩ := afindAsk_ok (w := w) es (e' :: es') 0 r he h
          have hn : Instr.findNow d k (e' :: es') 0 = none := by
            simp only [Instr.findNow]
            have : Instr.sameNow d k e'.key = none := by
              cases d <;> first | rfl | exact absurd rfl (n1 _) | exact absurd rfl n2 | exact absurd rfl n3
            rw [this]
          exact ⟨r', by simp only [Instr.findKey, Sem.run_bind, run_underlying hd, Result.andThen_ok, hn]; exact k1, k2⟩
      split at h
      · cases h
      · cases h
      · cases h
      · rename_i n1 n2 n3
        exact key n1 n2 n3 h
  · cases h

def aentries (st : St) (m : Value) : Option (List MapEntry) := match m with
  | .map none => some []
  | .map (some r) => match st.heap.get r with
    | some (.map es _) => some es
    | _ => none
  | _ => none
theorem run_getMap {P : Program} {w : World} {B : Nat} {es : Array MapEntry} {clock : Nat} (h : w.heap[B]? = some (.map es clock)) : (getObj B).run P w = .ok (.map es clock) w := by
  simp [getObj, Sem.run, h]
theorem aentries_ok {w0 : W0} {w : World} {φ : Pm} {st : St} (H : HR w0 φ st w) {m m' : Value} (hm : VR φ m m') {es : List MapEntry} (h : aentries st m = some es) :
    ∃ es' : Array MapEntry, EsR φ es es'.toList ∧ ((m' = .map none ∧ es' = #[]) ∨ ∃ B clock, m' = .map (some B) ∧ w.heap[B]? = some (.map es' clock)) := by
  unfold aentries at h
  split at h
  · cases h
    cases hm with
    | leaf => exact ⟨#[], ⟨rfl, fun i e e' h => by simp at h⟩, .inl ⟨rfl, rfl⟩⟩
  · rename_i r
    split at h
    · rename_i es0 clock hr
      cases h
      cases hm with
      | leaf hl => simp [leafB] at hl
      | map hmr =>
        obtain ⟨B, o, S, g, s, k1, k2, es', k3, k4, k5⟩ := H.obj _ _ hr hmr.ne
        unfold MR at hmr
        simp only [k1] at hmr
        subst hmr
        exact ⟨es', ⟨by simpa using k4, fun i e e' a b => k5 i e e' a (by simpa using b)⟩, .inr ⟨_, clock, rfl, k3⟩⟩
    · cases h
  · cases h
def acheck (P : Program) (empty : Bool) (kt : TypeId) (k : Value) : Bool := plainB 4 k && (match prun P (Instr.checkKey empty 10000 kt k) with | some _ => true | none => false)
theorem acheck_ok {P : Program} {φ : Pm} {empty : Bool} {kt : TypeId} {k k' : Value} (hk : VR φ k k') (h : acheck P empty kt k = true) (w : World) : k' = k ∧ (Instr.checkKey empty 10000 kt k).run P w = .ok () w := by
  unfold acheck at h
  simp only [Bool.and_eq_true] at h
  obtain ⟨h1, h2⟩ := h
  split at h2
  · rename_i u hu; exact ⟨plain_eq 4 _ _ h1 hk, prun_run _ _ hu w⟩
  · cases h2
/-! ### keys that are pointers -/
def afindPtr (P : Program) (st : St) (kt : TypeId) (k : Value) : List MapEntry → Nat → Option (Option (Nat × Value))
  | [], _ => some none
  | e :: es, i => match aeq P st kt k e.key with
    | some true => some (some (i, e.val))
    | some false => afindPtr P st kt k es (i + 1)
    | none => none
theorem afindPtr_ok {P : Program} {w0 : W0} {w : World} {φ : Pm} {st : St} (H : HR w0 φ st w) {kt : TypeId} {k k' : Value} (hk : VR φ k k') : ∀ (es es' : List MapEntry) (i : Nat) (r : Option (Nat × Value)), EsR φ es es' → afindPtr P st kt k es i = some r →
    ∃ r', (Instr.findAsking kt k' es' i).run P w = .ok r' w ∧ FR φ r r'
  | [], [], i, r, _, h => by simp only [afindPtr] at h; cases h; exact ⟨none, rfl, trivial⟩
  | [], _ :: _, _, _, h, _ => absurd h.1 (by simp)
  | _ :: _, [], _, _, h, _ => absurd h.1 (by simp)
  | e :: es, e' :: es', i, r, he, h => by
    obtain ⟨⟨h1, h2, h3⟩, h4⟩ := he.cons_inv
    simp only [afindPtr] at h
    split at h
    · rename_i hq
      cases h
      have : (Op.equal kt k' e'.key).run P w = .ok true w := (run_aeq H hk h1 hq).1 9999
      exact ⟨some (i, e'.val), by simp only [Instr.findAsking, Sem.run_bind, this, Result.andThen_ok, if_true, Sem.run_pure], rfl, h2⟩
    · rename_i hq
      have : (Op.equal kt k' e'.key).run P w = .ok false w := (run_aeq H hk h1 hq).1 9999
      obtain ⟨r', k1, k2⟩ := afindPtr_ok H hk es es' (i + 1) r h4 h
      exact ⟨r', by simp only [Instr.findAsking, Sem.run_bind, this, Result.andThen_ok, Bool.false_eq_true, if_false]; exact k1, k2⟩
    · cases h
theorem check_ptr {P : Program} {kt e : TypeId} (hu : P.underlying kt = some (.pointer e)) (empty : Bool) (n : Nat) (k : Value) (w : World) : (Instr.checkKey empty (n + 1) kt k).run P w = .ok () w := by
  simp only [Instr.checkKey, Sem.run_bind, run_underlying hu, Result.andThen_ok, Sem.run_pure]
def afindK (P : Program) (st : St) (empty : Bool) (kt : TypeId) (k : Value) (es : List MapEntry) : Option (Option (Nat × Value)) := match P.underlying kt with
  | some (.pointer _) => afindPtr P st kt k es 0
  | _ => if acheck P empty kt k then afind P kt k es else none
theorem run_afindK {P : Program} {w0 : W0} {w : World} {φ : Pm} {st : St} (H : HR w0 φ st w) {empty : Bool} {kt : TypeId} {k k' : Value} (hk : VR φ k k') {es es' : List MapEntry} (he : EsR φ es es') {r : Option (Nat × Value)} (h : afindK P st empty kt k es = some r) :
    (Instr.checkKey empty 10000 kt k').run P w = .ok () w ∧ ∃ r', (Instr.findKey kt k' es').run P w = .ok r' w ∧ FR φ r r' := by
  unfold afindK at h
  split at h
  · rename_i e hu
    obtain ⟨r', k1, k2⟩ := afindPtr_ok H hk es es' 0 r he h
    refine ⟨?_, r', ?_, k2⟩
    · exact check_ptr hu empty 9999 k' w
    · cases es' with
      | nil =>
        simp only [Instr.findAsking, Sem.run_pure, Result.ok.injEq, and_true] at k1
        rw [← k1]
        simp [Instr.findKey, run_underlying hu, Instr.findNow]
      | cons e' es' =>
        simp only [Instr.findKey, Sem.run_bind, run_underlying hu, Result.andThen_ok, Instr.findNow, Instr.sameNow]
        exact k1
  · split at h
    · rename_i hc
      obtain ⟨hk', hcr⟩ := acheck_ok hk hc w
      subst hk'
      exact ⟨hcr, run_afind he h⟩
    · cases h
/-- A key in its place: the same one. -/
def staysB (st : St) (e k : Value) : Bool := (plainB 4 e && plainB 4 k && Instr.sameBits 10000 e k) || (match e, k with
  | .pointer (some a), .pointer (some b) => addrEq a b && (match st.heap.get a.block with | some _ => true | none => false)
  | _, _ => false)
theorem stays_ok {w0 : W0} {w : World} {φ : Pm} {st : St} (H : HR w0 φ st w) {e e' k k' : Value} (he : VR φ e e') (hk : VR φ k k') (h : staysB st e k = true) : Instr.sameBits 10000 e' k' = true := by
  unfold staysB at h
  rw [Bool.or_eq_true] at h
  rcases h with h | h
  · simp only [Bool.and_eq_true] at h
    rw [plain_eq 4 _ _ h.1.1 he, plain_eq 4 _ _ h.1.2 hk]
    exact h.2
  · split at h
    · rename_i a b
      simp only [Bool.and_eq_true] at h
      obtain ⟨h1, h2⟩ := h
      obtain rfl := addr_eq h1
      split at h2
      · rename_i ob hob
        cases he with
        | leaf hl => simp [leafB] at hl
        | ptr ha => cases hk with
          | leaf hl => simp [leafB] at hl
          | ptr hb =>
            obtain ⟨B, o, S, g, s, k1, _⟩ := H.obj _ _ hob ha.ne
            unfold AR at ha hb
            simp only [k1] at ha hb
            rw [ha.2, hb.2]
            simp [Instr.sameBits]
      · cases h2
    · cases h
def alookup (P : Program) (st : St) (t : TypeId) (m k : Value) (ok : Bool) : Option Value :=
  match P.underlying t with
  | some (.map kt et) => match aentries st m, zeroB P et with
    | some es, some z => match afindK P st es.isEmpty kt k es with
        | some (some (_, v)) => some (if ok then .tuple ⟨[v, .bool true]⟩ else v)
        | some none => some (if ok then .tuple ⟨[z, .bool false]⟩ else z)
        | none => none
    | _, _ => none
  | _ => none
theorem VR.pair {φ : Pm} {v v' u u' : Value} (h : VR φ v v') (k : VR φ u u') : VR φ (.tuple ⟨[v, u]⟩) (.tuple ⟨[v', u']⟩) := VR.tuple_iff.2 (LR.cons h (LR.cons k LR.nil))
theorem ok_lookup {P : Program} {w0 : W0} {w : World} {φ : Pm} {st : St} (H : HR w0 φ st w) {t : TypeId} {m m' k k' : Value} {ok : Bool} (hm : VR φ m m') (hk : VR φ k k') {v : Value} (h : alookup P st t m k ok = some v) :
    Out.ok P w0 φ st w (do pure (.value (← Instr.lookup t m' k' ok))) (.val v) := by
  unfold alookup at h
  split at h
  · rename_i kt et hu
    split at h
    · rename_i es z he hz
      · obtain ⟨hzr, hzp⟩ := run_zero hz w
        obtain ⟨es', he1, he2⟩ := aentries_ok H hm he
        have hemp : es'.isEmpty = es.isEmpty := by
          have h1 : es.length = es'.size := by simpa using he1.1
          rw [Bool.eq_iff_iff, Array.isEmpty_iff_size_eq_zero, List.isEmpty_iff, ← List.length_eq_zero_iff, h1]
        have fin : ∀ (r' : Option (Nat × Value)), (Instr.checkKey es.isEmpty 10000 kt k').run P w = .ok () w → (Instr.findKey kt k' es'.toList).run P w = .ok r' w →
            (Instr.lookup t m' k' ok).run P w = .ok (match r' with | some (_, v) => (if ok then .tuple #[v, .bool true] else v) | none => (if ok then .tuple #[z, .bool false] else z)) w := by
          intro r' hcr hf
          rcases he2 with ⟨rfl, rfl⟩ | ⟨B, clock, rfl, hB⟩
          · have hcr' := hcr
            rw [← hemp] at hcr'
            cases r' with
            | none => cases ok <;> simp [Instr.lookup, run_underlying hu] <;> simp_all
            | some p => cases ok <;> simp [Instr.lookup, run_underlying hu] <;> simp_all
          · have hcr' := hcr
            rw [← hemp] at hcr'
            cases r' with
            | none => cases ok <;> simp [Instr.lookup, run_underlying hu, run_getMap hB, hcr', hf, hzr]
            | some p => cases ok <;> simp [Instr.lookup, run_underlying hu, run_getMap hB, hcr', hf]
        split at h
        · rename_i i v0 hf
          cases h
          obtain ⟨f0, r', f1, f2⟩ := run_afindK H hk he1 hf
          match r', f2, fin r' f0 f1 with
          | some (i', v'), ⟨_, f2⟩, hr =>
            refine val_of hr ?_
            cases ok with
            | true => exact VR.pair f2 (.leaf rfl)
            | false => exact f2
        · rename_i hf
          cases h
          obtain ⟨f0, r', f1, f2⟩ := run_afindK H hk he1 hf
          match r', f2, fin r' f0 f1 with
          | none, _, hr =>
            refine val_of hr ?_
            cases ok with
            | true => exact VR.pair (plain_refl 3 z hzp) (.leaf rfl)
            | false => exact plain_refl 3 z hzp
        · cases h
    · cases h
  · cases h
end Go.Ev
