/-
  More single operations: those on plain values, strings, slices, append, maps.
-/
/-
  Single operations that make or turn memory: append, copy, make, slices, literals.
-/
/-
  append and copy.
-/
import Derived.Test.YtjhlodbhchdkbaaGreatDoorEvM1
import Derived.Deep.AppendSrc
namespace Go.Ev
open Go Go.RowKit

/-! ### a run without memory -/
def prun (P : Program) {α : Type} : Sem α → Option α
  | .pure a => some a
  | .program k => prun P (k P)
  | .mark _ k => prun P k
  | _ => none
theorem prun_run {P : Program} {α : Type} : ∀ (s : Sem α) (a : α), prun P s = some a → ∀ w, s.run P w = .ok a w := by
  intro s
  induction s with
  | pure a => intro b h w; simp only [prun] at h; cases h; rfl
  | program k ih => intro b h w; simp only [prun] at h; simp only [Sem.run]; exact ih P b h w
  | mark m k ih => intro b h w; simp only [prun] at h; simp only [Sem.run]; exact ih b h w
  | _ => intro b h; simp [prun] at h

def isSelect : Op → Bool | .select .. => true | _ => false
def plainO (E : Operand → Option Value) (x : Operand) : Bool := match E x with | some v => plainB 4 v | none => false
def aplain (P : Program) (E : Operand → Option Value) (o : Oper) : Option Value :=
  if isSelect o.op then none else
  if o.op.operands.toList.all (plainO E) then
    match prun P (execOp (fun x => (E x).getD undef) o) with
    | some (.value v) => if plainB 4 v then some v else none
    | _ => none
  else none
/-- The operands' values lie in the frame as told. -/
def ER' (φ : Pm) (E : Operand → Option Value) (ρ : Operand → Value) (o : Oper) : Prop := ∀ x ∈ o.op.operands, ∀ v, E x = some v → VR φ v (ρ x)
theorem ok_plain {P : Program} {w0 : W0} {w : World} {φ : Pm} {st : St} {E : Operand → Option Value} {ρ : Operand → Value} {o : Oper} (hE : ER' φ E ρ o) {v : Value} (h : aplain P E o = some v) :
    Out.ok P w0 φ st w (execOp ρ o) (.val v) := by
  unfold aplain at h
  split at h
  · cases h
  · rename_i hs
    split at h
    · rename_i hp
      split at h
      · rename_i u hu
        split at h
        · rename_i hv
          cases h
          have hc : execOp ρ o = execOp (fun x => (E x).getD undef) o := by
            refine execOp_congr o (fun cs b e => hs (by rw [e]; rfl)) fun x hx => ?_
            have hx' := List.all_eq_true.1 hp x (by simpa using hx)
            unfold plainO at hx'
            split at hx'
            · rename_i v hv
              simp only [hv, Option.getD_some]
              exact plain_eq 4 v _ hx' (hE x hx v hv)
            · cases hx'
          rw [hc]
          exact ⟨v, w, prun_run _ _ hu w, Same.refl w, plain_refl 4 v hv⟩
        · cases h
      · cases h
    · cases h

/-! ### strings -/
def strB (l : List UInt8) : Value := .string ⟨⟨l⟩⟩
def astrOp (op : BinOp) (x y : List UInt8) : Option Value :=
  match op with
  | .add => if Nat.ble (x.length + y.length) 1099511627776 && !isMark ⟨⟨x ++ y⟩⟩ then some (strB (x ++ y)) else none
  | .eql => some (.bool (x == y))
  | .neq => some (.bool (!(x == y)))
  | .lss => some (.bool (Op.bytesLess x y))
  | .leq => some (.bool (Op.bytesLess x y || x == y))
  | .gtr => some (.bool (!(Op.bytesLess x y || x == y)))
  | .geq => some (.bool (!(Op.bytesLess x y)))
  | _ => none
theorem run_astrOp {P : Program} {w : World} {op : BinOp} {t : TypeId} {a b : ByteArray} {v : Value} (h : astrOp op a.data.toList b.data.toList = some v) :
    (binOp op t (.string a) (.string b)).run P w = .ok v w ∧ leafB v = true := by
  have hb : binOp op t (.string a) (.string b) = Op.stringOp op a b := by cases op <;> simp [binOp]
  rw [hb]
  unfold astrOp at h
  cases op <;> simp only [reduceCtorEq, Option.some.injEq] at h
  case add =>
    split at h
    · rename_i hle
      simp only [Bool.and_eq_true] at hle
      obtain ⟨hle, hmk⟩ := hle
      have hle := Nat.le_of_ble_eq_true hle
      cases h
      have h63 : ¬ (IntKind.i64.max < (((a.size + b.size : Nat)) : Int)) := by
        have e1 : a.size = a.data.toList.length := by simp
        have e2 : b.size = b.data.toList.length := by simp
        rw [IntKind.max_i64]
        omega
      refine ⟨?_, hmk⟩
      simp only [Op.stringOp, gt_iff_lt, h63, if_false, Sem.run_pure, strB]
      congr 2
    · cases h
  all_goals
    subst h
    refine ⟨?_, rfl⟩
    simp [Op.stringOp, ByteArray.toList_eq]

/-- A text that stands for many, held against a word. -/
def aopq (op : BinOp) (m c : ByteArray) : Option Value :=
  match op with
  | .eql => if !isMark c && inWords c.data.toList (farWords m) then some (.bool false) else none
  | .neq => if !isMark c && inWords c.data.toList (farWords m) then some (.bool true) else none
  | _ => none
theorem run_aopq {P : Program} {w : World} {op : BinOp} {t : TypeId} {m s c : ByteArray} {v : Value} (hs : far m s) (h : aopq op m c = some v) :
    isMark c = false ∧ leafB v = true ∧ (binOp op t (.string s) (.string c)).run P w = .ok v w ∧ (binOp op t (.string c) (.string s)).run P w = .ok v w := by
  have hb : ∀ a b, binOp op t (.string a) (.string b) = Op.stringOp op a b := fun a b => by cases op <;> simp [binOp]
  rw [hb, hb]
  have key : (!isMark c && inWords c.data.toList (farWords m)) = true → isMark c = false ∧ ¬ s.toList = c.toList ∧ ¬ c.toList = s.toList := fun hk => by
    simp only [Bool.and_eq_true, Bool.not_eq_true'] at hk
    have hne := hs _ (inWords_mem hk.2)
    rw [ByteArray.toList_eq, ByteArray.toList_eq]
    exact ⟨hk.1, hne, fun e => hne e.symm⟩
  unfold aopq at h
  split at h
  · split at h
    · rename_i hk
      obtain ⟨k1, k2, k3⟩ := key hk
      cases h
      exact ⟨k1, rfl, by simp [Op.stringOp, k2], by simp [Op.stringOp, k3]⟩
    · cases h
  · split at h
    · rename_i hk
      obtain ⟨k1, k2, k3⟩ := key hk
      cases h
      exact ⟨k1, rfl, by simp [Op.stringOp, k2], by simp [Op.stringOp, k3]⟩
    · cases h
  · cases h

def abin (op : BinOp) (x y : Value) : Option Value :=
  match x, y with
  | .string a, .string b => if isMark a then aopq op a b else if isMark b then aopq op b a else astrOp op a.data.toList b.data.toList
  | _, _ => none
theorem ok_abin {P : Program} {w0 : W0} {w : World} {φ : Pm} {st : St} {op : BinOp} {t : TypeId} {xo yo : Operand} {x y x' y' v : Value} (hx : VR φ x x') (hy : VR φ y y') (h : abin op x y = some v) :
    Out.ok P w0 φ st w (do pure (.value (← (do eqGuard op t xo yo x' y'; binOp op t x' y')))) (.val v) := by
  unfold abin at h
  split at h
  · rename_i a b
    split at h
    · rename_i hma
      cases hx with
      | leaf hl => simp [leafB, hma] at hl
      | opq _ hs =>
        obtain ⟨k1, k2, k3, _⟩ := run_aopq (P := P) (w := w) (t := t) hs h
        cases hy with
        | opq hm _ => rw [k1] at hm; cases hm
        | leaf => exact val_of (by rw [eqGuard_at_string]; simpa using k3) (.leaf k2)
    · rename_i hma
      split at h
      · rename_i hmb
        cases hy with
        | leaf hl => simp [leafB, hmb] at hl
        | opq _ hs =>
          obtain ⟨k1, k2, _, k4⟩ := run_aopq (P := P) (w := w) (t := t) hs h
          cases hx with
          | opq hm _ => exact absurd hm hma
          | leaf => exact val_of (by rw [eqGuard_at_string]; simpa using k4) (.leaf k2)
      · rename_i hmb
        cases hx with
        | opq hm _ => exact absurd hm hma
        | leaf => cases hy with
          | opq hm _ => exact absurd hm hmb
          | leaf =>
            obtain ⟨hr, hl⟩ := run_astrOp (P := P) (w := w) (t := t) h
            exact val_of (by rw [eqGuard_at_string]; simpa using hr) (.leaf hl)
  · cases h

/-! ### nothing, or something -/
def aeq (P : Program) (st : St) (t : TypeId) (x y : Value) : Option Bool :=
  match P.underlying t, x, y with
  | some (.pointer _), .pointer none, .pointer b => some b.isNone
  | some (.pointer _), .pointer (some _), .pointer none => some false
  | some (.pointer e), .pointer (some a), .pointer (some b) =>
    match sizeB P e, st.heap.get a.block, st.heap.get b.block with
    | some n, some (.cells ..), some (.cells ..) => if n = 0 then none else some (a.block == b.block && a.off == b.off)
    | _, _, _ => none
  | some (.slice _), .slice none _ _, .slice b _ _ => some b.isNone
  | some (.slice _), .slice (some _) _ _, .slice none _ _ => some false
  | some (.map _ _), .map none, .map b => some b.isNone
  | some (.map _ _), .map (some _), .map none => some false
  | some (.func _ _ _), .nilFunc, .func _ _ _ => some false
  | some (.func _ _ _), .func _ _ _, .nilFunc => some false
  | some (.interface _), .nilIface, .iface _ _ => some false
  | some (.interface _), .iface _ _, .nilIface => some false
  | _, _, _ => none
theorem run_sameAddr {P : Program} {w0 : W0} {w : World} {φ : Pm} {st : St} (H : HR w0 φ st w) {a a' b b' : Addr} (ha : AR φ a a') (hb : AR φ b b')
    {cs : List Value} {e : TypeId} {g : Bool} {s : Nat} {cs2 : List Value} {e2 : TypeId} {g2 : Bool} {s2 : Nat} (h1 : st.heap.get a.block = some (.cells cs e g s)) (h2 : st.heap.get b.block = some (.cells cs2 e2 g2 s2)) :
    (sameAddr a' b').run P w = .ok (a.block == b.block && a.off == b.off) w := by
  obtain ⟨B, o, S, g', s', k1, k2, _, _, arr, k5, k6, _⟩ := H.obj _ _ h1 ha.ne
  obtain ⟨B2, o2, S2, g2', s2', m1, m2, _, _, arr2, m5, m6, _⟩ := H.obj _ _ h2 hb.ne
  unfold AR at ha hb
  simp only [k1] at ha
  simp only [m1] at hb
  obtain ⟨ha1, rfl⟩ := ha
  obtain ⟨hb1, rfl⟩ := hb
  by_cases hab : a.block = b.block
  · rw [← hab, k1] at m1
    cases m1
    simp only [sameAddr, beq_self_eq_true, if_true, Sem.run_pure, hab, Bool.true_and]
    by_cases ho : a.off = b.off
    · simp [ho]
    · have h5 : ¬ o + a.off = o + b.off := by omega
      have h6 : (a.off == b.off) = false := by simpa using ho
      have h7 : ((⟨B, o + a.off, none⟩ : Addr) == ⟨B, o + b.off, none⟩) = false := by
        rw [beq_eq_false_iff_ne]; intro e; injection e with e1 e2; omega
      rw [h6, h7]
  · have hne : B ≠ B2 := fun e => by subst e; exact hab (H.inj _ _ _ _ _ _ _ _ _ _ _ (k2 rfl) k1 m1)
    have hbe : (B == B2) = false := by simpa using hne
    have hbe2 : (a.block == b.block) = false := by simpa using hab
    have v1 : w.shape? B = some (e, arr.size) := by simp [World.shape?, k5]
    have v2 : w.shape? B2 = some (e2, arr2.size) := by simp [World.shape?, m5]
    have f1 : ∀ x, w.frozen? ⟨B, x, none⟩ = false := fun x => by simp [World.frozen?, k5]
    have f2 : ∀ x, w.frozen? ⟨B2, x, none⟩ = false := fun x => by simp [World.frozen?, m5]
    simp [sameAddr, hbe, hbe2, f1, f2, noView, viewAt, v1, v2, mayBeOne, stringish]

theorem run_aeq {P : Program} {w0 : W0} {w : World} {φ : Pm} {st : St} (H : HR w0 φ st w) {t : TypeId} {x y x' y' : Value} {r : Bool} (hx : VR φ x x') (hy : VR φ y y') (h : aeq P st t x y = some r) :
    (∀ d, (Op.equalIn (d + 1) t x' y').run P w = .ok r w) ∧ (∀ op xo yo, eqGuard op t xo yo x' y' = pure ()) ∧ binOp .eql t x' y' = (do pure (.bool (← Op.equal t x' y'))) ∧ binOp .neq t x' y' = (do pure (.bool (!(← Op.equal t x' y')))) := by
  unfold aeq at h
  split at h
  · rename_i e b hu
    cases h
    cases hx with
    | leaf => cases hy with
      | leaf hl => cases b with
        | none => exact ⟨fun d => by simp [Op.equalIn, run_underlying hu], fun op xo yo => eqGuard_at_pointer _ _ _ _ _ _, by simp [binOp], by simp [binOp]⟩
        | some a => simp [leafB] at hl
      | ptr => exact ⟨fun d => by simp [Op.equalIn, run_underlying hu], fun op xo yo => eqGuard_at_pointer _ _ _ _ _ _, by simp [binOp], by simp [binOp]⟩
  · rename_i e a hu
    cases h
    cases hx with
    | leaf hl => simp [leafB] at hl
    | ptr => cases hy with
      | leaf => exact ⟨fun d => by simp [Op.equalIn, run_underlying hu], fun op xo yo => eqGuard_at_pointer _ _ _ _ _ _, by simp [binOp], by simp [binOp]⟩
  · rename_i e a b hu
    split at h
    · rename_i n c1 e1 g1 s1 c2 e2 g2 s2 hn h1 h2
      split at h
      · cases h
      · rename_i h0
        cases h
        cases hx with
        | leaf hl => simp [leafB] at hl
        | ptr ha => cases hy with
          | leaf hl => simp [leafB] at hl
          | ptr hb =>
            have hs := run_sameAddr (P := P) H ha hb h1 h2
            exact ⟨fun d => by simp [Op.equalIn, run_underlying hu, run_size hn, h0, hs], fun op xo yo => eqGuard_at_pointer _ _ _ _ _ _, by simp [binOp], by simp [binOp]⟩
    · cases h
  · rename_i e l1 c1 b l2 c2 hu
    cases h
    cases hx with
    | leaf => cases hy with
      | leaf hl => cases b with
        | none => exact ⟨fun d => by simp [Op.equalIn, run_underlying hu], fun op xo yo => eqGuard_at_slice _ _ _ _ _ _ _ _, by simp [binOp], by simp [binOp]⟩
        | some a => simp [leafB] at hl
      | slice => exact ⟨fun d => by simp [Op.equalIn, run_underlying hu], fun op xo yo => eqGuard_at_slice _ _ _ _ _ _ _ _, by simp [binOp], by simp [binOp]⟩
  · rename_i e a l1 c1 l2 c2 hu
    cases h
    cases hx with
    | leaf hl => simp [leafB] at hl
    | slice => cases hy with
      | leaf => exact ⟨fun d => by simp [Op.equalIn, run_underlying hu], fun op xo yo => eqGuard_at_slice _ _ _ _ _ _ _ _, by simp [binOp], by simp [binOp]⟩
  · rename_i k e b hu
    cases h
    cases hx with
    | leaf => cases hy with
      | leaf hl => cases b with
        | none => exact ⟨fun d => by simp [Op.equalIn, run_underlying hu], fun op xo yo => eqGuard_at_map _ _ _ _ _ _, by simp [binOp], by simp [binOp]⟩
        | some a => simp [leafB] at hl
      | map => exact ⟨fun d => by simp [Op.equalIn, run_underlying hu], fun op xo yo => eqGuard_at_map _ _ _ _ _ _, by simp [binOp], by simp [binOp]⟩
  · rename_i k e a hu
    cases h
    cases hx with
    | leaf hl => simp [leafB] at hl
    | map => cases hy with
      | leaf => exact ⟨fun d => by simp [Op.equalIn, run_underlying hu], fun op xo yo => eqGuard_at_map _ _ _ _ _ _, by simp [binOp], by simp [binOp]⟩
  · rename_i p q vv fn xs ys hu
    cases h
    cases hx with
    | leaf => cases hy with
      | leaf hl => simp [leafB] at hl
      | func => exact ⟨fun d => by simp [Op.equalIn, run_underlying hu], fun op xo yo => eqGuard_at_nilFunc _ _ _ _ _, by simp [binOp], by simp [binOp]⟩
  · rename_i p q vv fn xs ys hu
    cases h
    cases hy with
    | leaf => cases hx with
      | leaf hl => simp [leafB] at hl
      | func => exact ⟨fun d => by simp [Op.equalIn, run_underlying hu], fun op xo yo => eqGuard_at_func _ _ _ _ _ _ _ _, by simp [binOp], by simp [binOp]⟩
  · rename_i ms d u hu
    cases h
    cases hx with
    | leaf => cases hy with
      | leaf hl => simp [leafB] at hl
      | iface => exact ⟨fun d => by simp [Op.equalIn, run_underlying hu], fun op xo yo => eqGuard_nil_iface _ _ _ _ _ _, by simp [binOp], by simp [binOp]⟩
  · rename_i ms d u hu
    cases h
    cases hy with
    | leaf => cases hx with
      | leaf hl => simp [leafB] at hl
      | iface => exact ⟨fun d => by simp [Op.equalIn, run_underlying hu], fun op xo yo => eqGuard_at_iface _ _ _ _ _ _ _, by simp [binOp], by simp [binOp]⟩
  · cases h

def acmp (P : Program) (st : St) (op : BinOp) (t : TypeId) (x y : Value) : Option Value :=
  match op with
  | .eql => match aeq P st t x y with | some b => some (.bool b) | none => none
  | .neq => match aeq P st t x y with | some b => some (.bool (!b)) | none => none
  | _ => none
theorem ok_acmp {P : Program} {w0 : W0} {w : World} {φ : Pm} {st : St} (H : HR w0 φ st w) {op : BinOp} {t : TypeId} {xo yo : Operand} {x y x' y' v : Value} (hx : VR φ x x') (hy : VR φ y y') (h : acmp P st op t x y = some v) :
    Out.ok P w0 φ st w (do pure (.value (← (do eqGuard op t xo yo x' y'; binOp op t x' y')))) (.val v) := by
  unfold acmp at h
  split at h
  · split at h
    · rename_i b hb
      cases h
      obtain ⟨h1, h2, h3, _⟩ := run_aeq H hx hy hb
      have h1' : (Op.equal t x' y').run P w = .ok b w := h1 9999
      exact val_of (by rw [h2, h3]; simp [h1']) (.leaf rfl)
    · cases h
  · split at h
    · rename_i b hb
      cases h
      obtain ⟨h1, h2, _, h3⟩ := run_aeq H hx hy hb
      have h1' : (Op.equal t x' y').run P w = .ok b w := h1 9999
      exact val_of (by rw [h2, h3]; simp [h1']) (.leaf rfl)
    · cases h
  · cases h
end Go.Ev

namespace Go.Ev
open Go Go.RowKit

/-! ### slices of slices and strings -/
def bnd (v : Option Value) (d : Nat) : Option Nat := match v with
  | none => some d
  | some (.int _ n) => if decide (0 ≤ n) then some n.toNat else none
  | _ => none
theorem run_bounds {P : Program} {w : World} {b : Bool} {len cap : Nat} {lo hi : Option Value} {l h : Nat} (hl : bnd lo 0 = some l) (hh : bnd hi len = some h) (h1 : l ≤ h) (h2 : h ≤ cap) :
    (Instr.sliceBounds b len cap lo hi none).run P w = .ok (l, h, cap) w := by
  have key : ∀ (v : Option Value) (d k : Nat), bnd v d = some k → (v = none ∧ d = k) ∨ ∃ kk n, v = some (.int kk n) ∧ 0 ≤ n ∧ n.toNat = k := by
    intro v d k hv
    unfold bnd at hv
    split at hv
    · cases hv; exact .inl ⟨rfl, rfl⟩
    · split at hv
      · rename_i kk n h0; cases hv; exact .inr ⟨kk, n, rfl, by simpa using h0, rfl⟩
      · cases hv
    · cases hv
  rcases key lo 0 l hl with ⟨rfl, rfl⟩ | ⟨k1, n1, rfl, a1, rfl⟩ <;> rcases key hi len h hh with ⟨rfl, rfl⟩ | ⟨k2, n2, rfl, a2, rfl⟩
  · simp [Instr.sliceBounds]
  · have : n2 ≤ (cap : Int) := by omega
    simp [Instr.sliceBounds, Instr.sliceBound, asIntOf, a2, this]
  · have : n1 ≤ (len : Int) := by omega
    simp [Instr.sliceBounds, Instr.sliceBound, asIntOf, a1, this]
  · have e1 : n1 ≤ n2 := by omega
    have e2 : n2 ≤ (cap : Int) := by omega
    have e3 : ((n2.toNat : Nat) : Int) = n2 := by omega
    simp [Instr.sliceBounds, Instr.sliceBound, asIntOf, a1, a2, e1, e2, e3]

def optE (E : Operand → Option Value) (x : Option Operand) : Option (Option Value) := match x with
  | none => some none
  | some x => match E x with
    | some v => some (some v)
    | none => none

def aslice (P : Program) (st : St) (t : TypeId) (x : Value) (lo hi : Option Value) : Option Value :=
  match P.underlying t, x with
  | some .string, .string s => match bnd lo 0, bnd hi s.data.toList.length with
    | some l, some h => if Nat.ble l h && Nat.ble h s.data.toList.length && (!isMark s && !isMark ⟨⟨(s.data.toList.drop l).take (h - l)⟩⟩) then some (strB ((s.data.toList.drop l).take (h - l))) else none
    | _, _ => none
  | some (.slice e), .slice none len cap => match bnd lo 0, bnd hi len, sizeB P e with
    | some l, some h, some _ => if Nat.ble l h && Nat.ble h cap then some (.slice none (h - l) (cap - l)) else none
    | _, _, _ => none
  | some (.slice e), .slice (some a) len cap => match bnd lo 0, bnd hi len, sizeB P e, st.heap.get a.block with
    | some l, some h, some n, some (.cells _ _ g s) =>
      if g then
        if Nat.ble l h && Nat.ble h len && (Nat.beq l 0 || Nat.blt l h) && Nat.beq n s then some (.slice (some (a.add (l * n))) (h - l) (h - l)) else none
      else
        if Nat.ble l h && Nat.ble h cap then some (.slice (some (if cap = l then a else a.add (l * n))) (h - l) (cap - l)) else none
    | _, _, _, _ => none
  | _, _ => none
theorem bnd_rel {φ : Pm} {v v' : Option Value} (h : match v, v' with | none, none => True | some a, some b => VR φ a b | _, _ => False) {d k : Nat} (hb : bnd v d = some k) : bnd v' d = some k := by
  cases v with
  | none => cases v' with
    | none => exact hb
    | some b => exact h.elim
  | some a => cases v' with
    | none => exact h.elim
    | some b =>
      simp only at h
      unfold bnd at hb
      split at hb
      · simp at *
      · rename_i kk n e
        cases e
        cases h with
        | leaf => simpa [bnd] using hb
      · cases hb
theorem ok_slice {P : Program} {w0 : W0} {w : World} {φ : Pm} {st : St} (H : HR w0 φ st w) {t : TypeId} {x x' : Value} {lo lo' hi hi' : Option Value} (hx : VR φ x x')
    (hlo : match lo, lo' with | none, none => True | some a, some b => VR φ a b | _, _ => False) (hhi : match hi, hi' with | none, none => True | some a, some b => VR φ a b | _, _ => False)
    {v : Value} (h : aslice P st t x lo hi = some v) :
    Out.ok P w0 φ st w (do pure (.value (← Instr.sliceAt t x' lo' hi' none))) (.val v) := by
  unfold aslice at h
  split at h
  · rename_i s hu
    split at h
    · rename_i l hh hl hh'
      split at h
      · rename_i hb
        simp only [Bool.and_eq_true, Bool.not_eq_true'] at hb
        obtain ⟨⟨b1, b2⟩, m1, m2⟩ := hb
        have b1 := Nat.le_of_ble_eq_true b1
        have b2 := Nat.le_of_ble_eq_true b2
        cases h
        have hsz : s.data.toList.length = s.size := by simp
        rw [hsz] at hh' b2
        cases hx with
        | opq hm => rw [m1] at hm; cases hm
        | leaf =>
          have hr := run_bounds (P := P) (w := w) (b := false) (bnd_rel hlo hl) (bnd_rel hhi hh') b1 b2
          refine val_of ?_ (.leaf (by show (!isMark _) = true; rw [m2]; rfl))
          simp only [Instr.sliceAt, Sem.run_bind, run_underlying hu, Result.andThen_ok, Instr.slice, Option.isSome_none, Bool.false_eq_true, if_false, hr, Sem.run_pure, strB]
          congr 2
          obtain ⟨⟨q⟩⟩ := s
          exact ByteArray.extract_mk q l hh
      · cases h
    · cases h
  · rename_i e len cap hu
    split at h
    · rename_i l hh n hl hh' hn
      split at h
      · rename_i hb
        simp only [Bool.and_eq_true] at hb
        obtain ⟨b1, b2⟩ := hb
        have b1 := Nat.le_of_ble_eq_true b1
        have b2 := Nat.le_of_ble_eq_true b2
        cases h
        cases hx with
        | leaf =>
          have hr := run_bounds (P := P) (w := w) (b := true) (bnd_rel hlo hl) (bnd_rel hhi hh') b1 b2
          refine val_of ?_ (.leaf (v := .slice none (hh - l) (cap - l)) rfl)
          simp [Instr.sliceAt, run_underlying hu, Instr.slice, hr, run_size hn]
      · cases h
    · cases h
  · rename_i e a len cap hu
    split at h
    · rename_i l hh n cs el g s hl hh' hn hg
      cases hx with
      | leaf hl => simp [leafB] at hl
      | @slice _ a' _ _ cap' ha hc =>
        obtain ⟨B, o, S, g', s', k1, k2, k3, k4, arr, k5, k6, k7, k8, k9⟩ := H.obj _ _ hg ha.ne
        subst k3
        subst k4
        have ha0 := ha
        unfold AR at ha
        unfold CR at hc
        simp only [k1] at ha hc
        split at h
        · rename_i hgt
          subst hgt
          split at h
          · rename_i hb
            simp only [Bool.and_eq_true, Bool.or_eq_true] at hb
            obtain ⟨⟨⟨b1, b2⟩, b3⟩, b4⟩ := hb
            have b1 := Nat.le_of_ble_eq_true b1
            have b2 := Nat.le_of_ble_eq_true b2
            have b4 := Nat.eq_of_beq_eq_true b4
            have b3 : l = 0 ∨ l < hh := b3.imp (fun h => Nat.eq_of_beq_eq_true h) (fun h => by simp [Nat.blt] at h; omega)
            cases h
            simp only [if_true] at hc
            obtain ⟨c1, c2⟩ := hc
            have hr := run_bounds (P := P) (w := w) (b := true) (bnd_rel hlo hl) (bnd_rel hhi hh') b1 (Nat.le_trans b2 c1)
            have haddr : (if cap' = l then some a' else some (a'.add (l * n))) = some (a'.add (l * n)) := by
              split
              · rename_i e
                rcases b3 with b3 | b3
                · subst b3; simp [Addr.add]
                · omega
              · rfl
            refine val_of (v' := .slice (some (a'.add (l * n))) (hh - l) (cap' - l)) ?_ (.slice (ha0.add _) ?_)
            · simp [Instr.sliceAt, run_underlying hu, Instr.slice, hr, run_size hn, haddr]
            · unfold CR
              have hbk : (a.add (l * n)).block = a.block := by unfold Addr.add; split <;> rfl
              have hof : (a.add (l * n)).off = a.off + l * n := by unfold Addr.add; split <;> simp_all
              rw [hbk, k1, hof]
              simp only [if_true]
              refine ⟨by omega, ?_⟩
              subst b4
              have : l * n + (cap' - l) * n = cap' * n := by rw [← Nat.add_mul]; congr 1; omega
              omega
          · cases h
        · rename_i hgf
          have hgf : g' = false := by simpa using hgf
          subst hgf
          split at h
          · rename_i hb
            simp only [Bool.and_eq_true] at hb
            obtain ⟨b1, b2⟩ := hb
            have b1 := Nat.le_of_ble_eq_true b1
            have b2 := Nat.le_of_ble_eq_true b2
            cases h
            simp only [Bool.false_eq_true, if_false] at hc
            subst cap'
            have hr := run_bounds (P := P) (w := w) (b := true) (bnd_rel hlo hl) (bnd_rel hhi hh') b1 b2
            have hbk : (if cap = l then a else a.add (l * n)).block = a.block := by split; rfl; unfold Addr.add; split <;> rfl
            refine val_of (v' := .slice (some (if cap = l then a' else a'.add (l * n))) (hh - l) (cap - l)) ?_ (.slice ?_ ?_)
            · simp only [Instr.sliceAt, Sem.run_bind, run_underlying hu, Result.andThen_ok, Instr.slice, hr, run_size hn, Sem.run_pure, Option.map_some]
              split <;> rfl
            · split
              · exact ha0
              · exact ha0.add _
            · unfold CR
              rw [hbk, k1]
              simp
          · cases h
    · cases h
  · cases h
end Go.Ev

namespace Go.Ev
open Go Go.RowKit

theorem Le.dead {φ : Pm} {b : Nat} {B o S : Nat} {g : Bool} {s : Nat} (h : φ b = .live B o S g s) : Le φ (φ.tell b .dead) := fun c => by
  by_cases e : c = b
  · subst e; rw [Pm.tell_same]; simp [h]
  · rw [Pm.tell_other _ _ _ _ e]; cases φ c <;> simp
theorem HR.lt {w0 : W0} {w : World} {φ : Pm} {st : St} (h : HR w0 φ st w) {b : Nat} {x : Ob} (hb : st.heap.get b = some x) : b < st.next := by
  rcases Nat.lt_or_ge b st.next with h' | h'
  · exact h'
  · rw [h.absent b h'] at hb; cases hb
theorem HR.kill {w0 : W0} {w : World} {φ : Pm} {st : St} (h : HR w0 φ st w) {b : Nat} {B o S : Nat} {g : Bool} {s : Nat} (hp : φ b = .live B o S g s) :
    HR w0 (φ.tell b .dead) ⟨st.heap.put b none, st.next⟩ w := by
  have hle := Le.dead hp
  have hbn : b < st.next := by
    rcases Nat.lt_or_ge b st.next with h' | h'
    · exact h'
    · rw [h.fresh b h'] at hp; cases hp
  have key : ∀ c B o S g s, (φ.tell b .dead) c = .live B o S g s → c ≠ b ∧ φ c = .live B o S g s := fun c B o S g s hc => by
    by_cases e : c = b
    · subst e; rw [Pm.tell_same] at hc; cases hc
    · rw [Pm.tell_other _ _ _ _ e] at hc; exact ⟨e, hc⟩
  refine ⟨h.below, ?_, ?_, ?_, ?_, ?_, ?_⟩
  · intro c hc
    rw [Pm.tell_other _ _ _ _ (by simp at hc; omega)]
    exact h.fresh c hc
  · intro c hc
    simp only at hc ⊢
    rw [Tr.get_put_eq]
    split
    · rfl
    · exact h.absent c hc
  · intro c x hc hcn
    simp only [Tr.get_put_eq] at hc
    by_cases e : c = b
    · subst e; simp at hc
    · simp only [e, if_false] at hc
      rw [Pm.tell_other _ _ _ _ e] at hcn
      obtain ⟨B', o', S', g', s', k1, k2, k3⟩ := h.obj c x hc hcn
      exact ⟨B', o', S', g', s', by rw [Pm.tell_other _ _ _ _ e]; exact k1, k2, k3.mono hle⟩
  · intro b1 b2 B o1 S1 g1 s1 o2 S2 g2 s2 k0 k1 k2
    exact h.inj _ _ _ _ _ _ _ _ _ _ _ k0 (key _ _ _ _ _ _ k1).2 (key _ _ _ _ _ _ k2).2
  · intro c B o S g s hc
    exact h.used _ _ _ _ _ _ (key _ _ _ _ _ _ hc).2
  · refine ⟨fun r hr => ?_, fun r v k => ?_⟩
    · have hv := h.sym.1 r hr
      rw [Pm.tell_other _ _ _ _ (fun e => by subst e; rw [hv] at hp; cases hp)]; exact hv
    · by_cases e : r = b
      · subst e; rw [Pm.tell_same] at k; cases k
      · rw [Pm.tell_other _ _ _ _ e] at k; exact h.sym.2 r v k

/-- What an append adds: how many elements, and their cells. -/
def asrc (P : Program) (st : St) (u : TypeId) (size : Nat) (x : Value) : Option (Nat × List Value) := match P.underlying u, x with
  | some (.slice _), .slice none xl _ => if xl = 0 then some (0, []) else none
  | some (.slice _), .slice (some b) xl _ => match aloadCells st b (xl * size) with
    | some news => if news.all (·.oneCell') then some (xl, news) else none
    | none => none
  | some .string, .string s => if isMark s then none else if size = 1 then some (s.data.toList.length, byteCells s) else none
  | _, _ => none
theorem bytes_rel {φ : Pm} : ∀ l : List UInt8, LR φ (l.map fun b => Value.int .u8 b.toNat) (l.map fun b => Value.int .u8 b.toNat)
  | [] => LR.nil
  | _ :: l => LR.cons (.leaf rfl) (bytes_rel l)
theorem asrc_ok {P : Program} {w0 : W0} {w : World} {φ : Pm} {st : St} (H : HR w0 φ st w) {u : TypeId} {size : Nat} {x x' : Value} (hx : VR φ x x') {xl : Nat} {news : List Value} (h : asrc P st u size x = some (xl, news)) :
    ∃ news', LR φ news news' ∧ Src P size u x' xl news' w := by
  unfold asrc at h
  split at h
  · rename_i e n c hu
    split at h
    · rename_i h0
      cases h
      subst h0
      cases hx with
      | leaf => exact ⟨[], LR.nil, Src.ofNil w hu c⟩
    · cases h
  · rename_i e b n c hu
    split at h
    · rename_i l hl
      split at h
      · rename_i hone
        cases h
        cases hx with
        | leaf hl => simp [leafB] at hl
        | @slice _ b' _ _ c' ha _ =>
          obtain ⟨l', h1, h2, h3⟩ := aload_cells H ha hl
          exact ⟨l', h2, Src.ofSlice w hu b' _ c' l' h1 h3 (h2.all_one hone)⟩
      · cases h
    · cases h
  · rename_i t hu
    split at h
    · cases h
    rename_i hnm
    split at h
    · rename_i h1
      cases h
      subst h1
      cases hx with
      | opq hm => exact absurd hm hnm
      | leaf =>
        have hl : t.data.toList.length = t.size := by simp
        rw [hl]
        exact ⟨byteCells t, bytes_rel _, Src.ofString w hu t⟩
    · cases h
  · cases h

def aappend (P : Program) (st : St) (t u : TypeId) (s x : Value) : Option Out :=
  match P.underlying t, s with
  | some (.slice e), .slice sb sl sc =>
    match P.info? e with
    | none => none
    | some i =>
    match i.zero with
    | none => none
    | some z =>
    match asrc P st u i.size x with
    | none => none
    | some (xl, news) =>
    if Nat.beq z.cells.size i.size && Nat.blt 0 i.size && Nat.ble (sl + xl) 1099511627776 && Nat.ble ((sl + xl) * i.bytes) 140737488355328 then
    match sb with
    | none => if sl = 0 then if sc = 0 then if xl = 0 then some (.val s) else some (.new (.cells news e true i.size) fun b => .slice (some ⟨b, 0, none⟩) xl xl) else none else none
    | some a =>
    match st.heap.get a.block with
    | some (.cells _ el g sz) =>
      if xl = 0 then (if g || Nat.ble sl sc then some (.val s) else none) else
      if el = e then
      match aloadCells st a (sl * i.size) with
      | none => none
      | some olds =>
        if g then if sz = i.size then some (.eff (.slice (some ⟨st.next, 0, none⟩) (sl + xl) (sl + xl)) ⟨(st.heap.put a.block none).put st.next (some (.cells (olds ++ news) e true i.size)), st.next + 1⟩) else none
        else if Nat.ble (sl + xl) sc then match aputCells st (a.add (sl * i.size)) news with
          | some st' => some (.eff (.slice (some a) (sl + xl) sc) st')
          | none => none
        else some (.new (.cells (olds ++ news) e true i.size) fun b => .slice (some ⟨b, 0, none⟩) (sl + xl) (sl + xl))
      else none
    | _ => none
    else none
  | _, _ => none

/-- In place, with nothing to add. -/
theorem run_append_zero {P : Program} {w : World} {t u ty e : TypeId} {i : TypeInfo} (ht : P.underlying t = some (.slice e)) (hi : P.info? e = some i) {x : Value} {news : List Value} (hs : Src P i.size u x 0 news w) {sb : Option Addr} {sl sc : Nat} (h : sl ≤ sc) :
    (Builtin.append_ #[t, u] ty #[.slice sb sl sc, x]).run P w = .ok (.slice sb sl sc) w := by
  have hn : news = [] := List.eq_nil_of_length_eq_zero (by rw [hs.newsLen, Nat.zero_mul])
  have hc := hs.cells
  rw [hn] at hc
  rcases hs.kind with ⟨e', hk⟩ | hk <;> cases sb <;> simp [Builtin.append_, run_underlying ht, run_underlying hk, sizeOf, typeInfo, hi, hs.len, h, hc, storeCells]

theorem run_append_in {P : Program} {w w' : World} {t u ty e : TypeId} {i : TypeInfo} (ht : P.underlying t = some (.slice e)) (hi : P.info? e = some i) {a : Addr} {sl sc xl : Nat} (h : sl + xl ≤ sc)
    {x : Value} {news : List Value} (hs : Src P i.size u x xl news w) (hst : (storeCells (a.add (sl * i.size)) news).run P w = .ok () w') :
    (Builtin.append_ #[t, u] ty #[.slice (some a) sl sc, x]).run P w = .ok (.slice (some a) (sl + xl) sc) w' := by
  rcases hs.kind with ⟨e', hk⟩ | hk <;> simp [Builtin.append_, run_underlying ht, run_underlying hk, sizeOf, typeInfo, hi, hs.len, h, hs.cells, hst]

theorem size_grown {z : Array Value} {n m need cap : Nat} {size : Nat} (hz : z.size = size) (h1 : n + m = need * size) (h2 : need ≤ cap) : n + m + (Builtin.zeroCells z (cap - need)).size = cap * size := by
  rw [size_zeroCells, hz, h1, ← Nat.add_mul]; congr 1; omega

theorem ok_append {P : Program} {w0 : W0} {w : World} {φ : Pm} {st : St} (H : HR w0 φ st w) {t tu ty : TypeId} {s s' x x' : Value} (hs : VR φ s s') (hx : VR φ x x') {u : Out} (h : aappend P st t tu s x = some u) :
    Out.ok P w0 φ st w (do pure (.value (← Builtin.append_ #[t, tu] ty #[s', x']))) u := by
  unfold aappend at h
  split at h
  · rename_i e sb sl sc ht
    split at h
    · cases h
    rename_i i hi
    split at h
    · cases h
    rename_i z hz
    split at h
    · cases h
    rename_i xl news hnews
    split at h
    · rename_i hb
      simp only [Bool.and_eq_true] at hb
      obtain ⟨⟨⟨b1, b2⟩, b3⟩, b4⟩ := hb
      have b1 := Nat.eq_of_beq_eq_true b1
      have b2 : 0 < i.size := by simp [Nat.blt] at b2; omega
      have b3 := Nat.le_of_ble_eq_true b3
      have b4 := Nat.le_of_ble_eq_true b4
      obtain ⟨news', n2, n3⟩ := asrc_ok H hx hnews
      have n1 := n3.newsLen
      split at h
      · -- nil
        split at h
        · rename_i hsl
          subst hsl
          split at h
          · rename_i hsc
            subst hsc
            cases hs with
            | leaf =>
              split at h
              · rename_i h0
                cases h
                subst h0
                exact val_of (run_append_zero ht hi n3 (Nat.le_refl _)) (.leaf rfl)
              · rename_i h0
                cases h
                · have hnx := nextslicecap_zero (need := xl) (by omega)
                  have hr := run_append_grow_src (P := P) w t tu ty e i z ht hi hz none 0 0 [] (run_firstCells_none w.drew i.size 0 0 0) x' xl news' n3 (by omega) (by omega) (by simp only [Nat.zero_add] at b4 ⊢; rw [hnx]; omega)
                  simp only [Nat.zero_add, List.nil_append] at hr
                  have hge := grownCap_ge w xl 0 e
                  have hrun := congrArg (fun r => r.andThen fun (a : Value) w' => (pure (Next.value a) : Sem Next).run P w') hr
                  rw [← Sem.run_bind] at hrun
                  refine ⟨_, _, _, (grownCap w xl 0 e) * i.size, true, i.size, hrun, rfl, rfl, rfl, rfl, ?_⟩
                  intro φ' c hle hc
                  refine ⟨⟨rfl, rfl, _, rfl, ?_, ?_, fun e => by simp at e, ?_⟩, .slice ?_ ?_⟩
                  · have := size_grown (z := z.cells) (n := 0) (m := news'.length) (need := xl) (cap := grownCap w xl 0 e) b1 (by omega) hge
                    simpa using this
                  · rw [Nat.zero_add, n2.1, n1]; exact Nat.mul_le_mul_right _ hge
                  · rw [List.drop_zero, n2.1, Array.toList_append]
                    have : (news'.toArray.toList ++ (Builtin.zeroCells z.cells (grownCap w xl 0 e - xl)).toList).take news'.length = news' := List.take_left
                    rw [this]
                    exact n2.mono hle
                  · unfold AR; simp [hc]
                  · unfold CR; simp only [hc, if_true]; exact ⟨hge, by omega⟩
          · cases h
        · cases h
      · rename_i a
        split at h
        · rename_i cs el g sz hg
          cases hs with
          | leaf hl => simp [leafB] at hl
          | @slice _ a' _ _ sc' ha hc =>
            obtain ⟨B, o, S, g', s', k1, k2, k3, k4, arr, k5, k6, k7, k8, k9⟩ := H.obj _ _ hg ha.ne
            subst k3
            subst k4
            have ha0 := ha
            have hc0 := hc
            unfold AR at ha
            unfold CR at hc
            simp only [k1] at ha hc
            split at h
            · rename_i h0
              subst h0
              split at h
              · rename_i hle
                cases h
                have hle' : sl ≤ sc' := by
                  cases g' with
                  | true => simp only [if_true] at hc; exact hc.1
                  | false => simp only [Bool.false_eq_true, if_false] at hc; subst hc; simp only [Bool.false_or] at hle; exact Nat.le_of_ble_eq_true hle
                exact val_of (run_append_zero ht hi n3 hle') (.slice ha0 hc0)
              · cases h
            · rename_i h0
              split at h
              · rename_i hel
                subst hel
                split at h
                · cases h
                rename_i olds hold
                obtain ⟨olds', o1, o2, o3⟩ := aload_cells H ha0 hold
                have hlen : olds'.length + news'.length = (sl + xl) * i.size := by rw [o1, n1, Nat.add_mul]
                have grow : sc' < sl + xl → ∃ w', (Builtin.append_ #[t, tu] ty #[.slice (some a') sl sc', x']).run P w = .ok (.slice (some ⟨w.heap.size, 0, none⟩) (sl + xl) (grownCap w (sl + xl) sc' el)) w' ∧
                    w'.heap = w.heap.push (.cells ((olds' ++ news').toArray ++ Builtin.zeroCells z.cells (grownCap w (sl + xl) sc' el - (sl + xl))) el) ∧ w'.os = w.os ∧ w'.tape = w.tape ∧ w'.output = w.output ∧
                    ∀ φ' c, Le φ φ' → φ' c = .live w.heap.size 0 (grownCap w (sl + xl) sc' el * i.size) true i.size →
                      OR φ' (.cells (olds ++ news) el true i.size) (some (.cells ((olds' ++ news').toArray ++ Builtin.zeroCells z.cells (grownCap w (sl + xl) sc' el - (sl + xl))) el)) 0 (grownCap w (sl + xl) sc' el * i.size) true i.size ∧
                      VR φ' (.slice (some ⟨c, 0, none⟩) (sl + xl) (sl + xl)) (.slice (some ⟨w.heap.size, 0, none⟩) (sl + xl) (grownCap w (sl + xl) sc' el)) := by
                  intro hlt
                  have hr := run_append_grow_src (P := P) w t tu ty el i z ht hi hz (some a') sl sc' olds' (run_firstCells_some w.drew i.size sl a' sl sc' olds' o1 (by simpa using o3)) x' xl news' n3 hlt (by omega) (growslice_fits hlt b4)
                  have hge := grownCap_ge w (sl + xl) sc' el
                  refine ⟨_, hr, rfl, rfl, rfl, rfl, ?_⟩
                  intro φ' c hle hcc
                  refine ⟨⟨rfl, rfl, _, rfl, ?_, ?_, fun e => by simp at e, ?_⟩, .slice ?_ ?_⟩
                  · have := size_grown (z := z.cells) (n := olds'.length) (m := news'.length) (need := sl + xl) (cap := grownCap w (sl + xl) sc' el) b1 hlen hge
                    simpa using this
                  · rw [Nat.zero_add, List.length_append, o2.1, n2.1, hlen]; exact Nat.mul_le_mul_right _ hge
                  · rw [List.drop_zero, List.length_append, o2.1, n2.1, Array.toList_append]
                    have : ((olds' ++ news').toArray.toList ++ (Builtin.zeroCells z.cells (grownCap w (sl + xl) sc' el - (sl + xl))).toList).take (olds'.length + news'.length) = olds' ++ news' := by
                      rw [← List.length_append]; exact List.take_left
                    rw [this]
                    exact (o2.append n2).mono hle
                  · unfold AR; simp [hcc]
                  · unfold CR; simp only [hcc, if_true]; exact ⟨hge, by omega⟩
                split at h
                · rename_i hgt
                  subst hgt
                  split at h
                  · rename_i hsz
                    subst hsz
                    cases h
                    simp only [if_true] at hc
                    have hane : ∀ d, φ d = .none → d ≠ a.block := fun d hno e => by subst e; rw [k1] at hno; cases hno
                    have hkept : ∀ φ' : Pm, Le φ φ' → (∀ d, d < st.next → φ d = .none → φ' d = .none) →
                        Kept st φ ⟨(st.heap.put a.block none).put st.next (some (.cells (olds ++ news) el true i.size)), st.next + 1⟩ φ' := fun φ' hle hd =>
                      ⟨Nat.le_succ _, hle, fun d hdn hno => ⟨hd d hdn hno, by
                        rw [Tr.get_put_eq, if_neg (by omega), Tr.get_put_eq, if_neg (hane d hno)]⟩⟩
                    rcases Nat.lt_or_ge sc' (sl + xl) with hlt | hge
                    · obtain ⟨w', hr, hw, e1, e2, e3, hrel⟩ := grow hlt
                      have Hk := H.kill k1
                      have hfr : (φ.tell a.block .dead) st.next = .none := by
                        rw [Pm.tell_other _ _ _ _ (by have := H.lt hg; omega)]; exact H.fresh _ (Nat.le_refl _)
                      have hle1 : Le φ (φ.tell a.block .dead) := Le.dead k1
                      have hle2 := hle1.trans (Le.tell (b := st.next) (p := .live w.heap.size 0 (grownCap w (sl + xl) sc' el * i.size) true i.size) hfr)
                      obtain ⟨r1, r2⟩ := hrel _ st.next hle2 (Pm.tell_same _ _ _)
                      refine ⟨_, w', Hk.new hfr (Nat.le_succ _) (Nat.lt_succ_self _) hw e1 e2 e3 r1, hkept _ hle2 fun d hdn hno => ?_, .inl ⟨_, by rw [Sem.run_bind, hr]; rfl, r2⟩⟩
                      rw [Pm.tell_other _ _ _ _ (by omega), Pm.tell_other _ _ _ _ (hane d hno)]; exact hno
                    · obtain ⟨ha1, rfl⟩ := ha
                      have hfit : o + a.off + sl * i.size + news'.length ≤ arr.size := by
                        have h1 : (sl + xl) * i.size ≤ sc' * i.size := Nat.mul_le_mul_right _ hge
                        have h2 := hc.2
                        rw [n1]
                        rw [Nat.add_mul] at h1
                        omega
                      have hone := n3.one
                      have hst := run_storeCells_at P B (o + a.off + sl * i.size) el news' 0 arr w k5 (by omega) hone
                      simp only [Nat.add_zero] at hst
                      have hr := run_append_in (P := P) (w := w) (ty := ty) ht hi (a := ⟨B, o + a.off, none⟩) hge n3 (by rw [Addr.add_lit]; exact hst)
                      have hal : arr.toList.length = S := by simpa using k6
                      have hsz2 : sl * i.size + news'.length = (sl + xl) * i.size := by rw [n1, Nat.add_mul]
                      have holds : olds' = (arr.toList.drop (o + a.off)).take (sl * i.size) := by
                        apply List.ext_getElem?
                        intro j
                        rw [List.getElem?_take, List.getElem?_drop]
                        split
                        · rename_i hj
                          have hj' : j < olds'.length := by omega
                          have hv := o3 j olds'[j] (by simp [hj'])
                          rw [Addr.add_lit] at hv
                          simp only [World.cell?, k5] at hv
                          simp only [Option.isSome_none, Bool.false_eq_true, if_false] at hv
                          have hv2 : arr.toList[o + a.off + j]? = some olds'[j] := by rw [Array.getElem?_toList]; exact hv
                          rw [hv2]
                          simp [hj']
                        · rw [List.getElem?_eq_none (by omega)]
                      have seg := seg_take (l := arr.toList) (m := news') (o := o + a.off + sl * i.size) (n := o + a.off + sl * i.size + news'.length) (Nat.le_refl _) (by simpa using hfit) (o + a.off) (by omega)
                      have e1 : o + a.off + sl * i.size + news'.length - (o + a.off) = (sl * i.size + news'.length) := by omega
                      have e2 : o + a.off + sl * i.size - (o + a.off) = sl * i.size := by omega
                      rw [e1, e2] at seg
                      have e3 : ((arr.toList.drop (o + a.off)).take (sl * i.size + news'.length)).take (sl * i.size) = olds' := by rw [holds, List.take_take]; congr 1; omega
                      have e4 : ((arr.toList.drop (o + a.off)).take (sl * i.size + news'.length)).drop (sl * i.size + news'.length) = [] := by apply List.drop_eq_nil_of_le; simp; omega
                      rw [e3, e4, List.append_nil] at seg
                      have hor : ∀ φ' : Pm, Le φ φ' → OR φ' (.cells (olds ++ news) el true i.size) (some (.cells (arr.toList.take (o + a.off + sl * i.size) ++ news' ++ arr.toList.drop (o + a.off + sl * i.size + news'.length)).toArray el (0, 0))) (o + a.off) S true i.size := fun φ' hle =>
                        ⟨rfl, rfl, _, rfl, by simp; omega, by rw [List.length_append, o2.1, n2.1]; omega, fun e => (by cases e), by
                          rw [List.length_append, o2.1, n2.1, o1]
                          show LR φ' _ (((arr.toList.take (o + a.off + sl * i.size) ++ news' ++ arr.toList.drop (o + a.off + sl * i.size + news'.length)).drop (o + a.off)).take (sl * i.size + news'.length))
                          rw [seg]
                          exact (o2.append n2).mono hle⟩
                      have hfr : φ st.next = .none := H.fresh _ (Nat.le_refl _)
                      have hbc : st.next ≠ a.block := by have := H.lt hg; omega
                      have hle2 : Le φ ((φ.tell a.block .dead).tell st.next (.live B (o + a.off) S true i.size)) :=
                        (Le.dead k1).trans (Le.tell (by rw [Pm.tell_other _ _ _ _ hbc]; exact hfr))
                      obtain ⟨Hm, _⟩ := H.move hg rfl k1 hfr (Nat.le_succ _) (Nat.lt_succ_self _) (o2 := o + a.off) (g2 := true) (s2 := i.size) (setRow_heap w B arr _ el _ k5) (setRow_size _ _ _) (fun k hk => setRow_other w B k _ hk) rfl rfl rfl (hor _ hle2)
                      refine ⟨_, _, Hm, hkept _ hle2 fun d hdn hno => ?_, .inl ⟨_, by rw [Sem.run_bind, hr]; rfl, .slice ?_ ?_⟩⟩
                      · rw [Pm.tell_other _ _ _ _ (by omega), Pm.tell_other _ _ _ _ (hane d hno)]; exact hno
                      · unfold AR; simp [Pm.tell_same]
                      · unfold CR
                        simp only [Pm.tell_same, if_true]
                        refine ⟨hge, ?_⟩
                        have := hc.2
                        simpa using this
                  · cases h
                · rename_i hgf
                  have hgf : g' = false := by simpa using hgf
                  subst hgf
                  simp only [Bool.false_eq_true, if_false] at hc
                  subst sc'
                  split at h
                  · rename_i hle
                    have hle := Nat.le_of_ble_eq_true hle
                    split at h
                    · rename_i st' hst'
                      cases h
                      obtain ⟨w', hr, h1, h2⟩ := aput_cells (P := P) H (ha0.add (sl * i.size)) n2 hst'
                      exact ⟨φ, w', h1, h2, .inl ⟨_, by rw [Sem.run_bind, run_append_in ht hi hle n3 hr]; rfl, .slice ha0 (by unfold CR; simp only [k1]; simp)⟩⟩
                    · cases h
                  · rename_i hle
                    cases h
                    have hlt : sc < sl + xl := by
                      rcases Nat.lt_or_ge sc (sl + xl) with h' | h'
                      · exact h'
                      · exact absurd (by rw [Nat.ble_eq]; exact h') hle
                    obtain ⟨w', hr, hw, e1, e2, e3, hrel⟩ := grow hlt
                    exact ⟨_, _, w', _, _, _, by rw [Sem.run_bind, hr]; rfl, hw, e1, e2, e3, hrel⟩
              · cases h
        · cases h
    · cases h
  · cases h
end Go.Ev

