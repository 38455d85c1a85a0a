import Derived.Test.YtnfmfofialoioaaGreatDoorEvJ
namespace Go.Ev
open Go Go.RowKit

def b1 (x : Option Value) (k : Value → Option Out) : Option Out := match x with | some v => k v | none => none
theorem b1_some {x : Option Value} {k : Value → Option Out} {u : Out} (h : b1 x k = some u) : ∃ v, x = some v ∧ k v = some u := by
  cases x with
  | none => cases h
  | some v => exact ⟨v, rfl, h⟩
def tv (x : Option Value) : Option Out := match x with | some v => some (.val v) | none => none
theorem tv_some {x : Option Value} {u : Out} (h : tv x = some u) : ∃ v, x = some v ∧ u = .val v := by
  cases x with
  | none => cases h
  | some v => cases h; exact ⟨v, rfl, rfl⟩
def te (x : Option St) : Option Out := match x with | some s => some (.eff undef s) | none => none
theorem te_some {x : Option St} {u : Out} (h : te x = some u) : ∃ v, x = some v ∧ u = .eff undef v := by
  cases x with
  | none => cases h
  | some v => cases h; exact ⟨v, rfl, rfl⟩
def orV (x : Option Value) (y : Option Value) : Option Value := match x with | some v => some v | none => y
theorem orV_some {x y : Option Value} {v : Value} (h : orV x y = some v) : x = some v ∨ y = some v := by
  cases x with
  | none => exact .inr h
  | some u => exact .inl h

def isNilB : Value → Bool | .pointer none | .nilIface | .nilFunc => true | _ => false
def sureB : Value → Bool | .func (.method _) _ _ => false | .chan _ => false | v => !isNilB v

/-- One operation, told plainly. -/
def exec0 (P : Program) (E : Operand → Option Value) (st : St) (o : Oper) : Option Out :=
  match o.op with
  | .move x | .assign x => tv (E x)
  | .pick c a b => match E c with
    | some (.bool true) => tv (E a)
    | some (.bool false) => tv (E b)
    | _ => none
  | .alloc e => match zeroB P e with
    | some z => some (.new (.cells z.cells.toList e false 0) fun b => .pointer (some ⟨b, 0, none⟩))
    | none => none
  | .box e x => b1 (E x) fun v => some (.new (.cells v.cells.toList e false 0) fun b => .pointer (some ⟨b, 0, none⟩))
  | .build t ps => match evP E ps.toList with
    | some l => tv (abuild P t l)
    | none => none
  | .buildSlice t n ps => match evP E ps.toList with
    | some l => abuildSlice P t n l
    | none => none
  | .load t a => b1 (E a) fun v => tv (aload P st t v)
  | .store t a x => b1 (E a) fun v => b1 (E x) fun u => te (astore P st t v u)
  | .nilCheck x => b1 (E x) fun v => if sureB v then some (.val v) else none
  | .binOp op t x y _ => b1 (E x) fun v => b1 (E y) fun u => tv (orV (orV (abin op v u) (acmp P st op t v u)) (aplain P E o))
  | .makeInterface t x => b1 (E x) fun v => tv (aiface P t v)
  | .makeFunc fn first captured => match evL E first.toList, evL E captured.toList with
    | some xs, some ys => some (.val (.func fn ⟨xs⟩ ⟨ys⟩))
    | _, _ => none
  | .makeMap _ none => some (.new (.map [] 0) fun b => .map (some b))
  | .makeSlice t l c => b1 (E l) fun v => b1 (E c) fun u => amakeSlice P t v u
  | .slice t x lo hi none => b1 (E x) fun v => match optE E lo, optE E hi with
    | some l, some h => tv (aslice P st t v l h)
    | _, _ => none
  | .fieldAddr t x i => b1 (E x) fun v => tv (afieldAddr P t v i)
  | .field t x i => b1 (E x) fun v => tv (afield P t v i)
  | .indexAddr t x i => b1 (E x) fun v => b1 (E i) fun u => tv (aindexAddr P t v u)
  | .index t x i => b1 (E x) fun v => b1 (E i) fun u => tv (aindex P t v u)
  | .lookup t m k ok => b1 (E m) fun v => b1 (E k) fun u => tv (alookup P st t v u ok)
  | .mapUpdate t m k x | .insert t m k x => b1 (E m) fun v => b1 (E k) fun u => b1 (E x) fun z => te (aupdate P st t v u z)
  | .range t x => b1 (E x) fun v => arange P t v
  | .next x true => b1 (E x) fun v => match anext st v with
    | some (u, st') => some (.eff u st')
    | none => none
  | .typeAssert x _ t ok => b1 (E x) fun v => tv (aassert P v t ok)
  | .extract x i => b1 (E x) fun v => tv (aextract v i)
  | .call c => match c.callee, c.argTypes.toList, c.args.toList with
    | .builtin .len, [t], [x] => b1 (E x) fun v => tv (alen st P t v)
    | .builtin .cap, [t], [x] => b1 (E x) fun v => tv (acap P st t v)
    | .builtin .append, [t, u], [x, y] => b1 (E x) fun v => b1 (E y) fun z => aappend P st t u v z
    | .builtin .copy, [t, _], [x, y] => b1 (E x) fun v => b1 (E y) fun z => acopy P st t v z
    | .builtin .delete, [t, _], [x, y] => b1 (E x) fun v => b1 (E y) fun z => te (adelete P st t v z)
    | .builtin .unsafeSliceData, [_], [x] => b1 (E x) fun v => tv (asliceData st v)
    | .builtin .unsafeString, [t, _], [x, y] => b1 (E x) fun v => b1 (E y) fun z => aunsafeStr P st t v z
    | .builtin .max, _, _ | .builtin .min, _, _ => tv (aplain P E o)
    | _, _, _ => none
  | .convert a b x => b1 (E x) fun v => match abytes P a b v with
    | some u => some u
    | none => tv (orV (aplain P E o) (aconv P st a b v))
  | .unOp .. => tv (aplain P E o)
  | _ => none

theorem exec0_ok {P : Program} {w0 : W0} {w : World} {φ : Pm} {st : St} (H : HR w0 φ st w) {E : Operand → Option Value} {ρ : Operand → Value} {o : Oper} (hE : ER' φ E ρ o) {u : Out} (h : exec0 P E st o = some u) :
    Out.ok P w0 φ st w (execOp ρ o) u := by
  have hE0 := hE
  obtain ⟨dst, op, type, pos, after, guard⟩ := o
  unfold ER' at hE
  cases op <;> simp only [Op.operands] at hE <;> simp only [exec0] at h <;> simp only [execOp]
  case move x =>
    obtain ⟨v, hv, rfl⟩ := tv_some h
    exact ⟨_, w, rfl, Same.refl w, hE x (by simp) v hv⟩
  case assign x =>
    obtain ⟨v, hv, rfl⟩ := tv_some h
    exact ⟨_, w, rfl, Same.refl w, hE x (by simp) v hv⟩
  case pick c a b =>
    split at h
    · rename_i hc
      have hb := hE c (by simp) _ hc
      obtain ⟨v, hv, rfl⟩ := tv_some h
      generalize ρ c = x at hb
      cases hb
      exact ⟨_, w, by simp [asBool], Same.refl w, hE a (by simp) v hv⟩
    · rename_i hc
      have hb := hE c (by simp) _ hc
      obtain ⟨v, hv, rfl⟩ := tv_some h
      generalize ρ c = x at hb
      cases hb
      exact ⟨_, w, by simp [asBool], Same.refl w, hE b (by simp) v hv⟩
    · cases h
  case alloc e =>
    split at h
    · rename_i z hz; cases h; exact ok_alloc hz
    · cases h
  case box e x =>
    obtain ⟨v, hv, h⟩ := b1_some h
    cases h
    exact ok_box (hE x (by simp) v hv)
  case build t ps =>
    split at h
    · rename_i l hl
      obtain ⟨v, hv, rfl⟩ := tv_some h
      refine ok_build (ps := l) ?_ hv
      have := evP_ok (φ := φ) (E := E) (ρ := ρ) (xs := ps.toList) (fun x hx => hE x (by simpa using hx)) hl
      simpa using this
    · cases h
  case buildSlice t n ps =>
    split at h
    · rename_i l hl
      refine ok_buildSlice (ps := l) ?_ h
      have := evP_ok (φ := φ) (E := E) (ρ := ρ) (xs := ps.toList) (fun x hx => hE x (by simpa using hx)) hl
      simpa using this
    · cases h
  case load t a =>
    obtain ⟨v, hv, h⟩ := b1_some h
    obtain ⟨z, hz, rfl⟩ := tv_some h
    exact ok_load H (hE a (by simp) v hv) hz
  case store t a x =>
    obtain ⟨v, hv, h⟩ := b1_some h
    obtain ⟨y, hy, h⟩ := b1_some h
    obtain ⟨z, hz, rfl⟩ := te_some h
    exact ok_store H (hE a (by simp) v hv) (hE x (by simp) y hy) hz
  case nilCheck x =>
    obtain ⟨v, hv, h⟩ := b1_some h
    split at h
    · rename_i hs
      cases h
      have hx := hE x (by simp) v hv
      generalize ρ x = y at hx
      refine ⟨y, w, ?_, Same.refl w, hx⟩
      cases hx with
      | leaf hl => cases v <;> first | rfl | (rename_i q; cases q <;> first | rfl | (simp [sureB, isNilB] at hs; done) | (simp [leafB] at hl; done)) | (simp [sureB, isNilB] at hs; done) | (simp [leafB] at hl; done)
      | top => simp [sureB] at hs
      | @func fn _ _ _ _ => cases fn <;> first | rfl | (simp [sureB] at hs; done)
      | _ => rfl
    · cases h
  case binOp op t x y _ =>
    obtain ⟨v, hv, h⟩ := b1_some h
    obtain ⟨y', hy, h⟩ := b1_some h
    obtain ⟨z, hz, rfl⟩ := tv_some h
    rcases orV_some hz with hz | hz
    · rcases orV_some hz with hz | hz
      · exact ok_abin (hE x (by simp) v hv) (hE y (by simp) y' hy) hz
      · exact ok_acmp H (hE x (by simp) v hv) (hE y (by simp) y' hy) hz
    · exact ok_plain hE0 hz
  case unOp op t x =>
    obtain ⟨v, hv, rfl⟩ := tv_some h
    exact ok_plain hE0 hv
  case convert a b x =>
    obtain ⟨v, hv, h⟩ := b1_some h
    split at h
    · rename_i u' hu
      cases h
      exact ok_bytes (hE x (by simp) v hv) hu
    · obtain ⟨z, hz, rfl⟩ := tv_some h
      rcases orV_some hz with hz | hz
      · exact ok_plain hE0 hz
      · exact ok_conv H (hE x (by simp) v hv) hz
  case makeInterface t x =>
    obtain ⟨v, hv, h⟩ := b1_some h
    obtain ⟨z, hz, rfl⟩ := tv_some h
    exact ok_iface (hE x (by simp) v hv) hz
  case makeFunc fn first captured =>
    split at h
    · rename_i xs ys hx hy
      cases h
      have h1 := evL_ok (φ := φ) (E := E) (ρ := ρ) (xs := first.toList) (fun x hx => hE x (by simp at hx ⊢; exact .inl hx)) hx
      have h2 := evL_ok (φ := φ) (E := E) (ρ := ρ) (xs := captured.toList) (fun x hx => hE x (by simp at hx ⊢; exact .inr hx)) hy
      refine val_of (v' := .func fn (first.map ρ) (captured.map ρ)) (by simp [Instr.makeFunc]) (.func ?_ ?_ ?_ ?_)
      · have := h1.1; simpa using this
      · intro i v v' a b; exact h1.2 i v v' (by simpa using a) (by simpa using b)
      · have := h2.1; simpa using this
      · intro i v v' a b; exact h2.2 i v v' (by simpa using a) (by simpa using b)
    · cases h
  case makeMap t r =>
    cases r with
    | none => simp only at h; cases h; exact ok_makeMap
    | some x => cases h
  case makeSlice t l c =>
    obtain ⟨v, hv, h⟩ := b1_some h
    obtain ⟨y, hy, h⟩ := b1_some h
    exact ok_makeSlice (hE l (by simp) v hv) (hE c (by simp) y hy) h
  case slice t x lo hi mx =>
    cases mx with
    | some m => cases h
    | none =>
      simp only at h
      obtain ⟨v, hv, h⟩ := b1_some h
      split at h
      · rename_i l hh hl hhh
        obtain ⟨z, hz, rfl⟩ := tv_some h
        refine ok_slice H (hE x (by simp) v hv) ?_ ?_ hz
        · cases lo with
          | none => cases hl; trivial
          | some y =>
            simp only [optE] at hl
            split at hl
            · rename_i y' hy; cases hl; exact hE y (by simp) _ hy
            · cases hl
        · cases hi with
          | none => cases hhh; trivial
          | some y =>
            simp only [optE] at hhh
            split at hhh
            · rename_i y' hy; cases hhh; exact hE y (by simp) _ hy
            · cases hhh
      · cases h
  case fieldAddr t x i =>
    obtain ⟨v, hv, h⟩ := b1_some h
    obtain ⟨z, hz, rfl⟩ := tv_some h
    exact ok_fieldAddr (hE x (by simp) v hv) hz
  case field t x i =>
    obtain ⟨v, hv, h⟩ := b1_some h
    obtain ⟨z, hz, rfl⟩ := tv_some h
    exact ok_field (hE x (by simp) v hv) hz
  case indexAddr t x i =>
    obtain ⟨v, hv, h⟩ := b1_some h
    obtain ⟨y, hy, h⟩ := b1_some h
    obtain ⟨z, hz, rfl⟩ := tv_some h
    exact ok_indexAddr (hE x (by simp) v hv) (hE i (by simp) y hy) hz
  case index t x i =>
    obtain ⟨v, hv, h⟩ := b1_some h
    obtain ⟨y, hy, h⟩ := b1_some h
    obtain ⟨z, hz, rfl⟩ := tv_some h
    exact ok_index (hE x (by simp) v hv) (hE i (by simp) y hy) hz
  case lookup t x i ok =>
    obtain ⟨v, hv, h⟩ := b1_some h
    obtain ⟨y, hy, h⟩ := b1_some h
    obtain ⟨z, hz, rfl⟩ := tv_some h
    exact ok_lookup H (hE x (by simp) v hv) (hE i (by simp) y hy) hz
  case mapUpdate t m k x =>
    obtain ⟨v, hv, h⟩ := b1_some h
    obtain ⟨y, hy, h⟩ := b1_some h
    obtain ⟨x', hx, h⟩ := b1_some h
    obtain ⟨z, hz, rfl⟩ := te_some h
    exact ok_update H (hE m (by simp) v hv) (hE k (by simp) y hy) (hE x (by simp) x' hx) hz
  case insert t m k x =>
    obtain ⟨v, hv, h⟩ := b1_some h
    obtain ⟨y, hy, h⟩ := b1_some h
    obtain ⟨x', hx, h⟩ := b1_some h
    obtain ⟨z, hz, rfl⟩ := te_some h
    exact ok_update H (hE m (by simp) v hv) (hE k (by simp) y hy) (hE x (by simp) x' hx) hz
  case range t x =>
    obtain ⟨v, hv, h⟩ := b1_some h
    exact ok_range (hE x (by simp) v hv) h
  case next x s =>
    cases s with
    | false => cases h
    | true =>
      simp only at h
      obtain ⟨v, hv, h⟩ := b1_some h
      split at h
      · rename_i y st' hn
        cases h
        exact ok_next H (hE x (by simp) v hv) hn
      · cases h
  case typeAssert x a t ok =>
    obtain ⟨v, hv, h⟩ := b1_some h
    obtain ⟨z, hz, rfl⟩ := tv_some h
    exact ok_assert (hE x (by simp) v hv) hz
  case extract x i =>
    obtain ⟨v, hv, h⟩ := b1_some h
    obtain ⟨z, hz, rfl⟩ := tv_some h
    exact ok_extract (hE x (by simp) v hv) hz
  case call c =>
    obtain ⟨callee, args, argTypes⟩ := c
    simp only [Call.operands] at hE
    split at h
    · rename_i t x hc ht ha
      simp only at hc ht ha
      subst hc
      have e1 : argTypes = #[t] := by apply Array.ext'; simpa using ht
      have e2 : args = #[x] := by apply Array.ext'; simpa using ha
      subst e1; subst e2
      obtain ⟨v, hv, h⟩ := b1_some h
      obtain ⟨z, hz, rfl⟩ := tv_some h
      obtain ⟨r1, r2⟩ := run_alen (P := P) H (ty := type) (hE x (by simp) v hv) hz
      exact ⟨z, w, by simp [resolve, invoke, builtin, r1], Same.refl w, .leaf r2⟩
    · rename_i t x hc ht ha
      simp only at hc ht ha
      subst hc
      have e1 : argTypes = #[t] := by apply Array.ext'; simpa using ht
      have e2 : args = #[x] := by apply Array.ext'; simpa using ha
      subst e1; subst e2
      obtain ⟨v, hv, h⟩ := b1_some h
      obtain ⟨z, hz, rfl⟩ := tv_some h
      obtain ⟨r1, r2⟩ := run_acap (P := P) H (ty := type) (hE x (by simp) v hv) hz
      exact ⟨z, w, by simp [resolve, invoke, builtin, r1], Same.refl w, .leaf r2⟩
    · rename_i t u' x y hc ht ha
      simp only at hc ht ha
      subst hc
      have e1 : argTypes = #[t, u'] := by apply Array.ext'; simpa using ht
      have e2 : args = #[x, y] := by apply Array.ext'; simpa using ha
      subst e1; subst e2
      obtain ⟨v, hv, h⟩ := b1_some h
      obtain ⟨y', hy, h⟩ := b1_some h
      have := ok_append (ty := type) H (hE x (by simp) v hv) (hE y (by simp) y' hy) h
      simpa [resolve, invoke, builtin] using this
    · rename_i t u' x y hc ht ha
      simp only at hc ht ha
      subst hc
      have e1 : argTypes = #[t, u'] := by apply Array.ext'; simpa using ht
      have e2 : args = #[x, y] := by apply Array.ext'; simpa using ha
      subst e1; subst e2
      obtain ⟨v, hv, h⟩ := b1_some h
      obtain ⟨y', hy, h⟩ := b1_some h
      have := ok_copy (u := u') (ty := type) H (hE x (by simp) v hv) (hE y (by simp) y' hy) h
      simpa [resolve, invoke, builtin] using this
    · rename_i t u' x y hc ht ha
      simp only at hc ht ha
      subst hc
      have e1 : argTypes = #[t, u'] := by apply Array.ext'; simpa using ht
      have e2 : args = #[x, y] := by apply Array.ext'; simpa using ha
      subst e1; subst e2
      obtain ⟨v, hv, h⟩ := b1_some h
      obtain ⟨y', hy, h⟩ := b1_some h
      obtain ⟨z, hz, rfl⟩ := te_some h
      have := ok_delete (u := u') (ty := type) H (hE x (by simp) v hv) (hE y (by simp) y' hy) hz
      simpa [resolve, invoke, builtin] using this
    · rename_i t x hc ht ha
      simp only at hc ht ha
      subst hc
      have e1 : argTypes = #[t] := by apply Array.ext'; simpa using ht
      have e2 : args = #[x] := by apply Array.ext'; simpa using ha
      subst e1; subst e2
      obtain ⟨v, hv, h⟩ := b1_some h
      obtain ⟨z, hz, rfl⟩ := tv_some h
      obtain ⟨v', r1, r2⟩ := run_sliceData (P := P) H (ts := #[t]) (ty := type) (hE x (by simp) v hv) hz
      exact ⟨v', w, by simp [resolve, invoke, builtin, r1], Same.refl w, r2⟩
    · rename_i t u' x y hc ht ha
      simp only at hc ht ha
      subst hc
      have e1 : argTypes = #[t, u'] := by apply Array.ext'; simpa using ht
      have e2 : args = #[x, y] := by apply Array.ext'; simpa using ha
      subst e1; subst e2
      obtain ⟨v, hv, h⟩ := b1_some h
      obtain ⟨y', hy, h⟩ := b1_some h
      have := ok_unsafeStr (it := u') (ty := type) H (hE x (by simp) v hv) (hE y (by simp) y' hy) h
      simpa [resolve, invoke, builtin] using this
    · obtain ⟨v, hv, rfl⟩ := tv_some h
      exact ok_plain hE0 hv
    · obtain ⟨v, hv, rfl⟩ := tv_some h
      exact ok_plain hE0 hv
    · cases h
  all_goals cases h

/-! ### what is known of single operations -/
/-- bin: an operation on two values · len: how long a value is. -/
structure OpO where
  bin : BinOp → TypeId → Value → Value → Option Value
  len : TypeId → Value → Option Value
def noOpO : OpO := ⟨fun _ _ _ _ => none, fun _ _ => none⟩
structure OpOk (P : Program) (w0 : W0) (oo : OpO) : Prop where
  bin : ∀ b t v u r, oo.bin b t v u = some r → ∀ φ, Sy w0 φ → ∀ v' u', VR φ v v' → VR φ u u' → ∀ xo yo w, ∃ r', (do eqGuard b t xo yo v' u'; binOp b t v' u' : Sem Value).run P w = .ok r' w ∧ VR φ r r'
  len : ∀ t v r, oo.len t v = some r → ∀ φ, Sy w0 φ → ∀ v', VR φ v v' → ∀ ty w, ∃ r', (Builtin.len_ #[t] ty #[v']).run P w = .ok r' w ∧ VR φ r r'
theorem noOpO_ok (P : Program) (w0 : W0) : OpOk P w0 noOpO := ⟨fun _ _ _ _ _ h => (nomatch h), fun _ _ _ h => (nomatch h)⟩
def opAsk (oo : OpO) (E : Operand → Option Value) : Op → Option Value
  | .binOp b t x y _ => (match E x, E y with
    | some v, some u => oo.bin b t v u
    | _, _ => none)
  | .call c => (match c.callee, c.argTypes.toList, c.args.toList with
    | .builtin .len, [t], [x] => (match E x with
      | some v => oo.len t v
      | none => none)
    | _, _, _ => none)
  | _ => none
def exec1 (P : Program) (oo : OpO) (E : Operand → Option Value) (st : St) (o : Oper) : Option Out := match opAsk oo E o.op with
  | some v => some (.val v)
  | none => exec0 P E st o
theorem exec1_ok {P : Program} {oo : OpO} {w0 : W0} (ho : OpOk P w0 oo) {w : World} {φ : Pm} {st : St} (H : HR w0 φ st w) {E : Operand → Option Value} {ρ : Operand → Value} {o : Oper} (hE : ER' φ E ρ o) {u : Out} (h : exec1 P oo E st o = some u) :
    Out.ok P w0 φ st w (execOp ρ o) u := by
  unfold exec1 at h
  split at h
  · rename_i v hv
    cases h
    obtain ⟨dst, op, type, pos, after, guard⟩ := o
    unfold ER' at hE
    cases op <;> simp only [opAsk] at hv <;> first | (cases hv; done) | skip
    case binOp b t x y z =>
      simp only [Op.operands] at hE
      split at hv
      · rename_i a c ha hc
        obtain ⟨r', h1, h2⟩ := ho.bin _ _ _ _ _ hv φ H.sym _ _ (hE x (by simp) _ ha) (hE y (by simp) _ hc) x y w
        exact val_of h1 h2
      · cases hv
    case call c =>
      obtain ⟨callee, args, argTypes⟩ := c
      simp only [Op.operands, Call.operands] at hE
      split at hv
      · rename_i t x hc ht ha
        simp only at hc ht ha
        subst hc
        have e1 : argTypes = #[t] := by apply Array.ext'; simpa using ht
        have e2 : args = #[x] := by apply Array.ext'; simpa using ha
        subst e1; subst e2
        split at hv
        · rename_i a ha
          obtain ⟨r', h1, h2⟩ := ho.len _ _ _ hv φ H.sym _ (hE x (by simp) _ ha) type w
          exact ⟨r', w, by simp [execOp, resolve, invoke, builtin, h1], Same.refl w, h2⟩
        · cases hv
      · cases hv
  · exact exec0_ok H hE h
end Go.Ev
