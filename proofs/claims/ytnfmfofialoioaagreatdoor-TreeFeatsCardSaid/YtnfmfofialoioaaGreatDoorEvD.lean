/-
  More single operations: those on plain values, strings, slices, append, maps.
-/
import Derived.Test.YtnfmfofialoioaaGreatDoorEvC
namespace Go.Ev
open Go Go.RowKit

/-! ### a run without memory -/
def prun (P : Program) {α : Type} : Sem α → Option α
  | .pure a => some a
  | .program k => prun P (k P)
  | .mark _ k => prun P k
  | _ => none
theorem prun_run {P : Program} {α : Type} : ∀ (s : Sem α) (a : α), prun P s = some a → ∀ w, s.run P w = .ok a w := by
  intro s
  induction s with
  | pure a => intro b h w; simp only [prun] at h; cases h; rfl
  | program k ih => intro b h w; simp only [prun] at h; simp only [Sem.run]; exact ih P b h w
  | mark m k ih => intro b h w; simp only [prun] at h; simp only [Sem.run]; exact ih b h w
  | _ => intro b h; simp [prun] at h

def isSelect : Op → Bool | .select .. => true | _ => false
def plainO (E : Operand → Option Value) (x : Operand) : Bool := match E x with | some v => plainB 4 v | none => false
def aplain (P : Program) (E : Operand → Option Value) (o : Oper) : Option Value :=
  if isSelect o.op then none else
  if o.op.operands.toList.all (plainO E) then
    match prun P (execOp (fun x => (E x).getD undef) o) with
    | some (.value v) => if plainB 4 v then some v else none
    | _ => none
  else none
/-- The operands' values lie in the frame as told. -/
def ER' (φ : Pm) (E : Operand → Option Value) (ρ : Operand → Value) (o : Oper) : Prop := ∀ x ∈ o.op.operands, ∀ v, E x = some v → VR φ v (ρ x)
theorem ok_plain {P : Program} {w0 : W0} {w : World} {φ : Pm} {st : St} {E : Operand → Option Value} {ρ : Operand → Value} {o : Oper} (hE : ER' φ E ρ o) {v : Value} (h : aplain P E o = some v) :
    Out.ok P w0 φ st w (execOp ρ o) (.val v) := by
  unfold aplain at h
  split at h
  · cases h
  · rename_i hs
    split at h
    · rename_i hp
      split at h
      · rename_i u hu
        split at h
        · rename_i hv
          cases h
          have hc : execOp ρ o = execOp (fun x => (E x).getD undef) o := by
            refine execOp_congr o (fun cs b e => hs (by rw [e]; rfl)) fun x hx => ?_
            have hx' := List.all_eq_true.1 hp x (by simpa using hx)
            unfold plainO at hx'
            split at hx'
            · rename_i v hv
              simp only [hv, Option.getD_some]
              exact plain_eq 4 v _ hx' (hE x hx v hv)
            · cases hx'
          rw [hc]
          exact ⟨v, w, prun_run _ _ hu w, Same.refl w, plain_refl 4 v hv⟩
        · cases h
      · cases h
    · cases h

/-! ### strings -/
def strB (l : List UInt8) : Value := .string ⟨⟨l⟩⟩
def astrOp (op : BinOp) (x y : List UInt8) : Option Value :=
  match op with
  | .add => if Nat.ble (x.length + y.length) 1099511627776 && !isMark ⟨⟨x ++ y⟩⟩ then some (strB (x ++ y)) else none
  | .eql => some (.bool (x == y))
  | .neq => some (.bool (!(x == y)))
  | .lss => some (.bool (Op.bytesLess x y))
  | .leq => some (.bool (Op.bytesLess x y || x == y))
  | .gtr => some (.bool (!(Op.bytesLess x y || x == y)))
  | .geq => some (.bool (!(Op.bytesLess x y)))
  | _ => none
theorem run_astrOp {P : Program} {w : World} {op : BinOp} {t : TypeId} {a b : ByteArray} {v : Value} (h : astrOp op a.data.toList b.data.toList = some v) :
    (binOp op t (.string a) (.string b)).run P w = .ok v w ∧ leafB v = true := by
  have hb : binOp op t (.string a) (.string b) = Op.stringOp op a b := by cases op <;> simp [binOp]
  rw [hb]
  unfold astrOp at h
  cases op <;> simp only [reduceCtorEq, Option.some.injEq] at h
  case add =>
    split at h
    · rename_i hle
      simp only [Bool.and_eq_true] at hle
      obtain ⟨hle, hmk⟩ := hle
      have hle := Nat.le_of_ble_eq_true hle
      cases h
      have h63 : ¬ (IntKind.i64.max < (((a.size + b.size : Nat)) : Int)) := by
        have e1 : a.size = a.data.toList.length := by simp
        have e2 : b.size = b.data.toList.length := by simp
        rw [IntKind.max_i64]
        omega
      refine ⟨?_, hmk⟩
      simp only [Op.stringOp, gt_iff_lt, h63, if_false, Sem.run_pure, strB]
      congr 2
    · cases h
  all_goals
    subst h
    refine ⟨?_, rfl⟩
    simp [Op.stringOp, ByteArray.toList_eq]

/-- A text that stands for many, held against a word. -/
def aopq (op : BinOp) (m c : ByteArray) : Option Value :=
  match op with
  | .eql => if !isMark c && inWords c.data.toList (farWords m) then some (.bool false) else none
  | .neq => if !isMark c && inWords c.data.toList (farWords m) then some (.bool true) else none
  | _ => none
theorem run_aopq {P : Program} {w : World} {op : BinOp} {t : TypeId} {m s c : ByteArray} {v : Value} (hs : far m s) (h : aopq op m c = some v) :
    isMark c = false ∧ leafB v = true ∧ (binOp op t (.string s) (.string c)).run P w = .ok v w ∧ (binOp op t (.string c) (.string s)).run P w = .ok v w := by
  have hb : ∀ a b, binOp op t (.string a) (.string b) = Op.stringOp op a b := fun a b => by cases op <;> simp [binOp]
  rw [hb, hb]
  have key : (!isMark c && inWords c.data.toList (farWords m)) = true → isMark c = false ∧ ¬ s.toList = c.toList ∧ ¬ c.toList = s.toList := fun hk => by
    simp only [Bool.and_eq_true, Bool.not_eq_true'] at hk
    have hne := hs _ (inWords_mem hk.2)
    rw [ByteArray.toList_eq, ByteArray.toList_eq]
    exact ⟨hk.1, hne, fun e => hne e.symm⟩
  unfold aopq at h
  split at h
  · split at h
    · rename_i hk
      obtain ⟨k1, k2, k3⟩ := key hk
      cases h
      exact ⟨k1, rfl, by simp [Op.stringOp, k2], by simp [Op.stringOp, k3]⟩
    · cases h
  · split at h
    · rename_i hk
      obtain ⟨k1, k2, k3⟩ := key hk
      cases h
      exact ⟨k1, rfl, by simp [Op.stringOp, k2], by simp [Op.stringOp, k3]⟩
    · cases h
  · cases h

def abin (op : BinOp) (x y : Value) : Option Value :=
  match x, y with
  | .string a, .string b => if isMark a then aopq op a b else if isMark b then aopq op b a else astrOp op a.data.toList b.data.toList
  | _, _ => none
theorem ok_abin {P : Program} {w0 : W0} {w : World} {φ : Pm} {st : St} {op : BinOp} {t : TypeId} {xo yo : Operand} {x y x' y' v : Value} (hx : VR φ x x') (hy : VR φ y y') (h : abin op x y = some v) :
    Out.ok P w0 φ st w (do pure (.value (← (do eqGuard op t xo yo x' y'; binOp op t x' y')))) (.val v) := by
  unfold abin at h
  split at h
  · rename_i a b
    split at h
    · rename_i hma
      cases hx with
      | leaf hl => simp [leafB, hma] at hl
      | opq _ hs =>
        obtain ⟨k1, k2, k3, _⟩ := run_aopq (P := P) (w := w) (t := t) hs h
        cases hy with
        | opq hm _ => rw [k1] at hm; cases hm
        | leaf => exact val_of (by rw [eqGuard_at_string]; simpa using k3) (.leaf k2)
    · rename_i hma
      split at h
      · rename_i hmb
        cases hy with
        | leaf hl => simp [leafB, hmb] at hl
        | opq _ hs =>
          obtain ⟨k1, k2, _, k4⟩ := run_aopq (P := P) (w := w) (t := t) hs h
          cases hx with
          | opq hm _ => exact absurd hm hma
          | leaf => exact val_of (by rw [eqGuard_at_string]; simpa using k4) (.leaf k2)
      · rename_i hmb
        cases hx with
        | opq hm _ => exact absurd hm hma
        | leaf => cases hy with
          | opq hm _ => exact absurd hm hmb
          | leaf =>
            obtain ⟨hr, hl⟩ := run_astrOp (P := P) (w := w) (t := t) h
            exact val_of (by rw [eqGuard_at_string]; simpa using hr) (.leaf hl)
  · cases h

/-! ### nothing, or something -/
def aeq (P : Program) (st : St) (t : TypeId) (x y : Value) : Option Bool :=
  match P.underlying t, x, y with
  | some (.pointer _), .pointer none, .pointer b => some b.isNone
  | some (.pointer _), .pointer (some _), .pointer none => some false
  | some (.pointer e), .pointer (some a), .pointer (some b) =>
    match sizeB P e, st.heap.get a.block, st.heap.get b.block with
    | some n, some (.cells ..), some (.cells ..) => if n = 0 then none else some (a.block == b.block && a.off == b.off)
    | _, _, _ => none
  | some (.slice _), .slice none _ _, .slice b _ _ => some b.isNone
  | some (.slice _), .slice (some _) _ _, .slice none _ _ => some false
  | some (.map _ _), .map none, .map b => some b.isNone
  | some (.map _ _), .map (some _), .map none => some false
  | some (.func _ _ _), .nilFunc, .func _ _ _ => some false
  | some (.func _ _ _), .func _ _ _, .nilFunc => some false
  | some (.interface _), .nilIface, .iface _ _ => some false
  | some (.interface _), .iface _ _, .nilIface => some false
  | _, _, _ => none
theorem run_sameAddr {P : Program} {w0 : W0} {w : World} {φ : Pm} {st : St} (H : HR w0 φ st w) {a a' b b' : Addr} (ha : AR φ a a') (hb : AR φ b b')
    {cs : List Value} {e : TypeId} {g : Bool} {s : Nat} {cs2 : List Value} {e2 : TypeId} {g2 : Bool} {s2 : Nat} (h1 : st.heap.get a.block = some (.cells cs e g s)) (h2 : st.heap.get b.block = some (.cells cs2 e2 g2 s2)) :
    (sameAddr a' b').run P w = .ok (a.block == b.block && a.off == b.off) w := by
  obtain ⟨B, o, S, g', s', k1, k2, _, _, arr, k5, k6, _⟩ := H.obj _ _ h1 ha.ne
  obtain ⟨B2, o2, S2, g2', s2', m1, m2, _, _, arr2, m5, m6, _⟩ := H.obj _ _ h2 hb.ne
  unfold AR at ha hb
  simp only [k1] at ha
  simp only [m1] at hb
  obtain ⟨ha1, rfl⟩ := ha
  obtain ⟨hb1, rfl⟩ := hb
  by_cases hab : a.block = b.block
  · rw [← hab, k1] at m1
    cases m1
    simp only [sameAddr, beq_self_eq_true, if_true, Sem.run_pure, hab, Bool.true_and]
    by_cases ho : a.off = b.off
    · simp [ho]
    · have h5 : ¬ o + a.off = o + b.off := by omega
      have h6 : (a.off == b.off) = false := by simpa using ho
      have h7 : ((⟨B, o + a.off, none⟩ : Addr) == ⟨B, o + b.off, none⟩) = false := by
        rw [beq_eq_false_iff_ne]; intro e; injection e with e1 e2; omega
      rw [h6, h7]
  · have hne : B ≠ B2 := fun e => by subst e; exact hab (H.inj _ _ _ _ _ _ _ _ _ _ _ k1 m1)
    have hbe : (B == B2) = false := by simpa using hne
    have hbe2 : (a.block == b.block) = false := by simpa using hab
    have v1 : w.shape? B = some (e, arr.size) := by simp [World.shape?, k5]
    have v2 : w.shape? B2 = some (e2, arr2.size) := by simp [World.shape?, m5]
    have f1 : ∀ x, w.frozen? ⟨B, x, none⟩ = false := fun x => by simp [World.frozen?, k5]
    have f2 : ∀ x, w.frozen? ⟨B2, x, none⟩ = false := fun x => by simp [World.frozen?, m5]
    simp [sameAddr, hbe, hbe2, f1, f2, noView, viewAt, v1, v2, mayBeOne, stringish]

theorem run_aeq {P : Program} {w0 : W0} {w : World} {φ : Pm} {st : St} (H : HR w0 φ st w) {t : TypeId} {x y x' y' : Value} {r : Bool} (hx : VR φ x x') (hy : VR φ y y') (h : aeq P st t x y = some r) :
    (∀ d, (Op.equalIn (d + 1) t x' y').run P w = .ok r w) ∧ (∀ op xo yo, eqGuard op t xo yo x' y' = pure ()) ∧ binOp .eql t x' y' = (do pure (.bool (← Op.equal t x' y'))) ∧ binOp .neq t x' y' = (do pure (.bool (!(← Op.equal t x' y')))) := by
  unfold aeq at h
  split at h
  · rename_i e b hu
    cases h
    cases hx with
    | leaf => cases hy with
      | leaf hl => cases b with
        | none => exact ⟨fun d => by simp [Op.equalIn, run_underlying hu], fun op xo yo => eqGuard_at_pointer _ _ _ _ _ _, by simp [binOp], by simp [binOp]⟩
        | some a => simp [leafB] at hl
      | ptr => exact ⟨fun d => by simp [Op.equalIn, run_underlying hu], fun op xo yo => eqGuard_at_pointer _ _ _ _ _ _, by simp [binOp], by simp [binOp]⟩
  · rename_i e a hu
    cases h
    cases hx with
    | leaf hl => simp [leafB] at hl
    | ptr => cases hy with
      | leaf => exact ⟨fun d => by simp [Op.equalIn, run_underlying hu], fun op xo yo => eqGuard_at_pointer _ _ _ _ _ _, by simp [binOp], by simp [binOp]⟩
  · rename_i e a b hu
    split at h
    · rename_i n c1 e1 g1 s1 c2 e2 g2 s2 hn h1 h2
      split at h
      · cases h
      · rename_i h0
        cases h
        cases hx with
        | leaf hl => simp [leafB] at hl
        | ptr ha => cases hy with
          | leaf hl => simp [leafB] at hl
          | ptr hb =>
            have hs := run_sameAddr (P := P) H ha hb h1 h2
            exact ⟨fun d => by simp [Op.equalIn, run_underlying hu, run_size hn, h0, hs], fun op xo yo => eqGuard_at_pointer _ _ _ _ _ _, by simp [binOp], by simp [binOp]⟩
    · cases h
  · rename_i e l1 c1 b l2 c2 hu
    cases h
    cases hx with
    | leaf => cases hy with
      | leaf hl => cases b with
        | none => exact ⟨fun d => by simp [Op.equalIn, run_underlying hu], fun op xo yo => eqGuard_at_slice _ _ _ _ _ _ _ _, by simp [binOp], by simp [binOp]⟩
        | some a => simp [leafB] at hl
      | slice => exact ⟨fun d => by simp [Op.equalIn, run_underlying hu], fun op xo yo => eqGuard_at_slice _ _ _ _ _ _ _ _, by simp [binOp], by simp [binOp]⟩
  · rename_i e a l1 c1 l2 c2 hu
    cases h
    cases hx with
    | leaf hl => simp [leafB] at hl
    | slice => cases hy with
      | leaf => exact ⟨fun d => by simp [Op.equalIn, run_underlying hu], fun op xo yo => eqGuard_at_slice _ _ _ _ _ _ _ _, by simp [binOp], by simp [binOp]⟩
  · rename_i k e b hu
    cases h
    cases hx with
    | leaf => cases hy with
      | leaf hl => cases b with
        | none => exact ⟨fun d => by simp [Op.equalIn, run_underlying hu], fun op xo yo => eqGuard_at_map _ _ _ _ _ _, by simp [binOp], by simp [binOp]⟩
        | some a => simp [leafB] at hl
      | map => exact ⟨fun d => by simp [Op.equalIn, run_underlying hu], fun op xo yo => eqGuard_at_map _ _ _ _ _ _, by simp [binOp], by simp [binOp]⟩
  · rename_i k e a hu
    cases h
    cases hx with
    | leaf hl => simp [leafB] at hl
    | map => cases hy with
      | leaf => exact ⟨fun d => by simp [Op.equalIn, run_underlying hu], fun op xo yo => eqGuard_at_map _ _ _ _ _ _, by simp [binOp], by simp [binOp]⟩
  · rename_i p q vv fn xs ys hu
    cases h
    cases hx with
    | leaf => cases hy with
      | leaf hl => simp [leafB] at hl
      | func => exact ⟨fun d => by simp [Op.equalIn, run_underlying hu], fun op xo yo => eqGuard_at_nilFunc _ _ _ _ _, by simp [binOp], by simp [binOp]⟩
  · rename_i p q vv fn xs ys hu
    cases h
    cases hy with
    | leaf => cases hx with
      | leaf hl => simp [leafB] at hl
      | func => exact ⟨fun d => by simp [Op.equalIn, run_underlying hu], fun op xo yo => eqGuard_at_func _ _ _ _ _ _ _ _, by simp [binOp], by simp [binOp]⟩
  · rename_i ms d u hu
    cases h
    cases hx with
    | leaf => cases hy with
      | leaf hl => simp [leafB] at hl
      | iface => exact ⟨fun d => by simp [Op.equalIn, run_underlying hu], fun op xo yo => eqGuard_nil_iface _ _ _ _ _ _, by simp [binOp], by simp [binOp]⟩
  · rename_i ms d u hu
    cases h
    cases hy with
    | leaf => cases hx with
      | leaf hl => simp [leafB] at hl
      | iface => exact ⟨fun d => by simp [Op.equalIn, run_underlying hu], fun op xo yo => eqGuard_at_iface _ _ _ _ _ _ _, by simp [binOp], by simp [binOp]⟩
  · cases h

def acmp (P : Program) (st : St) (op : BinOp) (t : TypeId) (x y : Value) : Option Value :=
  match op with
  | .eql => match aeq P st t x y with | some b => some (.bool b) | none => none
  | .neq => match aeq P st t x y with | some b => some (.bool (!b)) | none => none
  | _ => none
theorem ok_acmp {P : Program} {w0 : W0} {w : World} {φ : Pm} {st : St} (H : HR w0 φ st w) {op : BinOp} {t : TypeId} {xo yo : Operand} {x y x' y' v : Value} (hx : VR φ x x') (hy : VR φ y y') (h : acmp P st op t x y = some v) :
    Out.ok P w0 φ st w (do pure (.value (← (do eqGuard op t xo yo x' y'; binOp op t x' y')))) (.val v) := by
  unfold acmp at h
  split at h
  · split at h
    · rename_i b hb
      cases h
      obtain ⟨h1, h2, h3, _⟩ := run_aeq H hx hy hb
      have h1' : (Op.equal t x' y').run P w = .ok b w := h1 9999
      exact val_of (by rw [h2, h3]; simp [h1']) (.leaf rfl)
    · cases h
  · split at h
    · rename_i b hb
      cases h
      obtain ⟨h1, h2, _, h3⟩ := run_aeq H hx hy hb
      have h1' : (Op.equal t x' y').run P w = .ok b w := h1 9999
      exact val_of (by rw [h2, h3]; simp [h1']) (.leaf rfl)
    · cases h
  · cases h
end Go.Ev
