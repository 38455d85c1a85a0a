/-
  What single operations give: told plainly, and the same by the model.
-/
import Derived.Test.YtnfmfofialoioaaGreatDoorEvB
import Derived.Laws.MakeOwn
import Derived.Laws.Slices
import Derived.Laws.Strings
import Derived.Laws.Strings2
import Derived.Laws.Tables
import Derived.Laws.Pointers
import Derived.Laws.Cover3
import Derived.Laws.StructEq
namespace Go.Ev
open Go Go.RowKit

inductive Out where
  | val (v : Value)
  | new (ob : Ob) (mk : Nat → Value)
  | eff (v : Value) (st : St)

/-- What an operation's run must be. -/
def Out.ok (P : Program) (w0 : W0) (φ : Pm) (st : St) (w : World) (s : Sem Next) : Out → Prop
  | .val v => ∃ v' w', s.run P w = .ok (.value v') w' ∧ Same w w' ∧ VR φ v v'
  | .new ob mk => ∃ ob' v' w' S g z, s.run P w = .ok (.value v') w' ∧ w'.heap = w.heap.push ob' ∧ w'.os = w.os ∧ w'.tape = w.tape ∧ w'.output = w.output ∧
      ∀ φ' b, Le φ φ' → φ' b = .live w.heap.size 0 S g z → OR φ' ob (some ob') 0 S g z ∧ VR φ' (mk b) v'
  | .eff v st' => ∃ φ' w', HR w0 φ' st' w' ∧ Kept st φ st' φ' ∧ ((∃ v', s.run P w = .ok (.value v') w' ∧ VR φ' v v') ∨ (s.run P w = .ok .skip w' ∧ v = undef))

theorem val_of {P : Program} {w0 : W0} {φ : Pm} {st : St} {w : World} {s : Sem Value} {v v' : Value} (h : s.run P w = .ok v' w) (k : VR φ v v') :
    Out.ok P w0 φ st w (do pure (.value (← s))) (.val v) :=
  ⟨v', w, by simp [h], Same.refl w, k⟩

/-! ### memory -/
theorem ok_alloc {P : Program} {w0 : W0} {w : World} {φ : Pm} {st : St} {t : TypeId} {z : Value} (h : zeroB P t = some z) :
    Out.ok P w0 φ st w (do pure (.value (← Instr.alloc t true (.tuple #[])))) (.new (.cells z.cells.toList t false 0) fun b => .pointer (some ⟨b, 0, none⟩)) := by
  obtain ⟨hr, hp⟩ := run_zero h w
  refine ⟨.cells z.cells t, .pointer (some ⟨w.heap.size, 0, none⟩), w.alloc (.cells z.cells t), z.cells.size, false, 0, ?_, rfl, rfl, rfl, rfl, ?_⟩
  · simp [Instr.alloc, hr, newVar, newRow]
  · intro φ' b _ hb
    refine ⟨⟨rfl, rfl, z.cells, rfl, rfl, by simp, fun _ => ⟨rfl, by simp⟩, ?_⟩, .ptr ?_⟩
    · have := (plain_refl (φ := φ') 3 z hp).cells
      rw [List.drop_zero, List.take_length]
      exact this
    · unfold AR; simp [hb]

theorem ok_box {P : Program} {w0 : W0} {w : World} {φ : Pm} {st : St} {t : TypeId} {v v' : Value} (h : VR φ v v') :
    Out.ok P w0 φ st w (do pure (.value (← Instr.box t v'))) (.new (.cells v.cells.toList t false 0) fun b => .pointer (some ⟨b, 0, none⟩)) := by
  refine ⟨.cells v'.cells t, .pointer (some ⟨w.heap.size, 0, none⟩), w.alloc (.cells v'.cells t), v'.cells.size, false, 0, ?_, rfl, rfl, rfl, rfl, ?_⟩
  · simp [Instr.box, newVar, newRow]
  · intro φ' b hle hb
    have hc := (h.mono hle).cells
    have hl := hc.1
    refine ⟨⟨rfl, rfl, v'.cells, rfl, rfl, by simpa using Nat.le_of_eq hl, fun _ => ⟨rfl, by simpa using hl⟩, ?_⟩, .ptr ?_⟩
    · rw [List.drop_zero, hl, List.take_length]; exact hc
    · unfold AR; simp [hb]

theorem ok_load {P : Program} {w0 : W0} {w : World} {φ : Pm} {st : St} (H : HR w0 φ st w) {t : TypeId} {v v' u : Value} (hv : VR φ v v') (h : aload P st t v = some u) :
    Out.ok P w0 φ st w (do pure (.value (← Instr.loadAt t v'))) (.val u) := by
  have e : ∃ a, v = .pointer (some a) := by
    unfold aload at h
    split at h
    · exact ⟨_, rfl⟩
    · cases h
  obtain ⟨a, rfl⟩ := e
  cases hv with
  | ptr ha =>
    obtain ⟨u', hr, hu⟩ := run_aloadVar H ha h
    exact val_of (by simp [Instr.loadAt, Instr.sureAddr, hr]) hu
  | leaf hl => simp [leafB] at hl

def astore (P : Program) (st : St) (t : TypeId) (v x : Value) : Option St :=
  match v with
  | .pointer (some a) => match sizeB P t with
    | some n => if x.cells.size = n then aputCells st a x.cells.toList else none
    | none => none
  | _ => none
theorem ok_store {P : Program} {w0 : W0} {w : World} {φ : Pm} {st st' : St} (H : HR w0 φ st w) {t : TypeId} {v v' x x' : Value} (hv : VR φ v v') (hx : VR φ x x') (h : astore P st t v x = some st') :
    Out.ok P w0 φ st w (do Instr.storeAt t v' x'; pure .skip) (.eff undef st') := by
  have e : ∃ a, v = .pointer (some a) := by
    unfold astore at h
    split at h
    · exact ⟨_, rfl⟩
    · cases h
  obtain ⟨a, rfl⟩ := e
  cases hv with
  | leaf hl => simp [leafB] at hl
  | ptr ha =>
    simp only [astore] at h
    split at h
    · rename_i n hn
      split at h
      · rename_i hs
        obtain ⟨w', hr, h1, h2⟩ := aput_cells (P := P) H ha hx.cells h
        have hz : x'.cells.size = n := by rw [← hs]; have := hx.cells.1; simpa using this.symm
        refine ⟨φ, w', h1, h2, .inr ⟨?_, rfl⟩⟩
        simp [Instr.storeAt, Instr.sureAddr, storeVar, run_size hn, hz, hr]
      · cases h
    · cases h

/-! ### addresses -/
def afieldAddr (P : Program) (s : TypeId) (v : Value) (i : Nat) : Option Value :=
  match v, P.underlying s with
  | .pointer (some a), some (.struct fs) => match fs[i]? with
    | some f => match sizeB P f.type with
      | some n => if n = 0 then none else some (.pointer (some (a.add f.offset)))
      | none => none
    | none => none
  | _, _ => none
theorem ok_fieldAddr {P : Program} {w0 : W0} {w : World} {φ : Pm} {st : St} {s : TypeId} {i : Nat} {v v' u : Value} (hv : VR φ v v') (h : afieldAddr P s v i = some u) :
    Out.ok P w0 φ st w (do pure (.value (← Instr.fieldAt s v' i))) (.val u) := by
  unfold afieldAddr at h
  split at h
  · rename_i a fs hu
    split at h
    · rename_i f hf
      split at h
      · rename_i n hn
        split at h
        · cases h
        · rename_i h0
          cases h
          cases hv with
          | leaf hl => simp [leafB] at hl
          | ptr ha =>
            refine val_of ?_ (.ptr (ha.add _))
            simp [Instr.fieldAt, run_underlying hu, hf, Instr.sureAddr, fieldPlace, run_size hn, h0]
      · cases h
    · cases h
  · cases h

def aindexAddr (P : Program) (t : TypeId) (v i : Value) : Option Value :=
  match P.underlying t, v, i with
  | some (.slice e), .slice (some a) len _, .int _ n => match sizeB P e with
    | some s => if Int.ble' 0 n && Int.blt' n len then some (.pointer (some (a.add (n.toNat * s)))) else none
    | none => none
  | some (.array len e), .pointer (some a), .int _ n => match sizeB P e with
    | some s => if Int.ble' 0 n && Int.blt' n len then some (.pointer (some (a.add (n.toNat * s)))) else none
    | none => none
  | _, _, _ => none
where
  Int.ble' (a b : Int) : Bool := decide (a ≤ b)
  Int.blt' (a b : Int) : Bool := decide (a < b)
theorem ok_indexAddr {P : Program} {w0 : W0} {w : World} {φ : Pm} {st : St} {t : TypeId} {v v' i i' u : Value} (hv : VR φ v v') (hi : VR φ i i') (h : aindexAddr P t v i = some u) :
    Out.ok P w0 φ st w (do pure (.value (← Instr.indexAt t v' i'))) (.val u) := by
  unfold aindexAddr at h
  split at h
  · rename_i e a len c k n hu
    split at h
    · rename_i s hs
      split at h
      · rename_i hb
        simp only [aindexAddr.Int.ble', aindexAddr.Int.blt', Bool.and_eq_true, decide_eq_true_eq] at hb
        cases h
        cases hi with
        | leaf =>
          cases hv with
          | leaf hl => simp [leafB] at hl
          | slice ha _ =>
            refine val_of ?_ (.ptr (ha.add _))
            simp [Instr.indexAt, run_underlying hu, asIntOf, hb, run_size hs]
      · cases h
    · cases h
  · rename_i len e a k n hu
    split at h
    · rename_i s hs
      split at h
      · rename_i hb
        simp only [aindexAddr.Int.ble', aindexAddr.Int.blt', Bool.and_eq_true, decide_eq_true_eq] at hb
        cases h
        cases hi with
        | leaf =>
          cases hv with
          | leaf hl => simp [leafB] at hl
          | ptr ha =>
            refine val_of ?_ (.ptr (ha.add _))
            simp [Instr.indexAt, run_underlying hu, asIntOf, Instr.sureAddr, hb, run_size hs]
      · cases h
    · cases h
  · cases h

/-! ### parts of values -/
def apart (P : Program) (t : TypeId) (cs : List Value) (off : Nat) : Option Value :=
  match aggB P t with
  | some true => match sizeB P t with
    | some n => some (.agg ⟨(cs.drop off).take n⟩)
    | none => none
  | some false => cs[off]?
  | none => none
theorem run_apart {P : Program} {w : World} {φ : Pm} {t : TypeId} {cs cs' : List Value} (hc : LR φ cs cs') {off : Nat} {u : Value} (h : apart P t cs off = some u) :
    ∃ u', (part t ⟨cs'⟩ off).run P w = .ok u' w ∧ VR φ u u' := by
  unfold apart at h
  split at h
  · rename_i hg
    split at h
    · rename_i n hn
      cases h
      refine ⟨.agg ⟨(cs'.drop off).take n⟩, ?_, VR.agg_iff.2 ((hc.drop _).take _)⟩
      simp only [part, Sem.run_bind, run_agg hg, Result.andThen_ok, if_true, run_size hn, Sem.run_pure]
      congr 2
      apply Array.ext'
      simp [List.extract_eq_take_drop]
    · cases h
  · rename_i hg
    obtain ⟨v', hv, hr⟩ := hc.get h
    refine ⟨v', ?_, hr⟩
    simp [part, run_agg hg, hv]
  · cases h

def afield (P : Program) (t : TypeId) (v : Value) (i : Nat) : Option Value :=
  match v, P.underlying t with
  | .agg cs, some (.struct fs) => match fs[i]? with
    | some f => apart P f.type cs.toList f.offset
    | none => none
  | _, _ => none
theorem ok_field {P : Program} {w0 : W0} {w : World} {φ : Pm} {st : St} {t : TypeId} {i : Nat} {v v' u : Value} (hv : VR φ v v') (h : afield P t v i = some u) :
    Out.ok P w0 φ st w (do pure (.value (← Instr.field t v' i))) (.val u) := by
  unfold afield at h
  split at h
  · rename_i cs fs hu
    split at h
    · rename_i f hf
      cases hv with
      | leaf hl => simp [leafB] at hl
      | @agg _ cs' hs hh =>
        have hc : LR φ cs.toList cs'.toList := ⟨by simpa using hs, fun i v v' a b => hh i v v' (by simpa using a) (by simpa using b)⟩
        obtain ⟨u', hr, hu'⟩ := run_apart (P := P) (w := w) hc h
        exact val_of (by simp [Instr.field, run_underlying hu, hf, asAgg]; exact hr) hu'
    · cases h
  · cases h

def aindex (P : Program) (t : TypeId) (v i : Value) : Option Value :=
  match P.underlying t, v, i with
  | some (.array len e), .agg cs, .int _ n => match sizeB P e with
    | some s => if decide (0 ≤ n) && decide (n < len) then apart P e cs.toList (n.toNat * s) else none
    | none => none
  | some .string, .string s, .int _ n => if isMark s then none else if decide (0 ≤ n) then match s.data.toList[n.toNat]? with
    | some b => some (.int .u8 b.toNat)
    | none => none
    else none
  | _, _, _ => none
theorem ok_index {P : Program} {w0 : W0} {w : World} {φ : Pm} {st : St} {t : TypeId} {v v' i i' u : Value} (hv : VR φ v v') (hi : VR φ i i') (h : aindex P t v i = some u) :
    Out.ok P w0 φ st w (do pure (.value (← Instr.index t v' i'))) (.val u) := by
  unfold aindex at h
  split at h
  · rename_i len e cs k n hu
    split at h
    · rename_i s hs
      split at h
      · rename_i hb
        simp only [Bool.and_eq_true, decide_eq_true_eq] at hb
        cases hi with
        | leaf =>
          cases hv with
          | leaf hl => simp [leafB] at hl
          | @agg _ cs' hs' hh =>
            have hc : LR φ cs.toList cs'.toList := ⟨by simpa using hs', fun i v v' a b => hh i v v' (by simpa using a) (by simpa using b)⟩
            obtain ⟨u', hr, hu'⟩ := run_apart (P := P) (w := w) hc h
            exact val_of (by simp [Instr.index, run_underlying hu, asIntOf, hb, run_size hs]; exact hr) hu'
      · cases h
    · cases h
  · rename_i s k n hu
    split at h
    · cases h
    rename_i hnm
    split at h
    · rename_i h0
      have h0 : 0 ≤ n := by simpa using h0
      split at h
      · rename_i b hb
        cases h
        cases hi with
        | leaf =>
          cases hv with
          | opq hm => exact absurd hm hnm
          | leaf _ =>
            have hlt : n.toNat < s.size := by
              rcases Nat.lt_or_ge n.toNat s.data.toList.length with h' | h'
              · simpa using h'
              · rw [List.getElem?_eq_none h'] at hb; cases hb
            have hg : s[n.toNat]? = some b := by
              rw [ByteArray.getElem?_lt' s _ hlt]
              have : s.data.toList[n.toNat]? = some s[n.toNat] := by
                rw [Array.getElem?_toList]
                exact Array.getElem?_eq_getElem hlt
              rw [this] at hb
              exact hb
            exact val_of (by simp [Instr.index, run_underlying hu, asIntOf, h0, hg]) (.leaf rfl)
      · cases h
    · cases h
  · cases h

def aextract (v : Value) (i : Nat) : Option Value := match v with | .tuple vs => vs.toList[i]? | _ => none
theorem ok_extract {P : Program} {w0 : W0} {w : World} {φ : Pm} {st : St} {i : Nat} {v v' u : Value} (hv : VR φ v v') (h : aextract v i = some u) :
    Out.ok P w0 φ st w (do pure (.value (← Instr.extract v' i))) (.val u) := by
  unfold aextract at h
  split at h
  · rename_i vs
    cases hv with
    | leaf hl => simp [leafB] at hl
    | @tuple _ vs' hs hh =>
      have hc : LR φ vs.toList vs'.toList := ⟨by simpa using hs, fun i v v' a b => hh i v v' (by simpa using a) (by simpa using b)⟩
      obtain ⟨u', h1, h2⟩ := hc.get h
      have h1' : vs'[i]? = some u' := by simpa using h1
      exact val_of (by simp [Instr.extract, h1']) h2
  · cases h

def aiface (P : Program) (t : TypeId) (v : Value) : Option Value := match P.underlying t with | some (.interface _) => none | some _ => some (.iface t v) | none => none
theorem ok_iface {P : Program} {w0 : W0} {w : World} {φ : Pm} {st : St} {t : TypeId} {v v' u : Value} (hv : VR φ v v') (h : aiface P t v = some u) :
    Out.ok P w0 φ st w (do pure (.value (← Instr.makeInterface t v'))) (.val u) := by
  unfold aiface at h
  split at h
  · cases h
  · rename_i d hd hu
    cases h
    refine val_of ?_ (.iface hv)
    cases d <;> first | (simp [Instr.makeInterface, run_underlying hu]; done) | exact absurd rfl (hd _)
  · cases h

/-! ### lengths -/
def alen (st : St) (P : Program) (t : TypeId) (v : Value) : Option Value :=
  match P.underlying t, v with
  | some .string, .string s => if isMark s then none else some (goInt s.data.toList.length)
  | some (.slice _), .slice _ n _ => some (goInt n)
  | some (.array n _), _ => some (goInt n)
  | some (.map _ _), .map none => some (goInt 0)
  | some (.map _ _), .map (some r) => match st.heap.get r with
    | some (.map es _) => some (goInt es.length)
    | _ => none
  | _, _ => none
theorem run_alen {P : Program} {w0 : W0} {w : World} {φ : Pm} {st : St} (H : HR w0 φ st w) {t ty : TypeId} {v v' u : Value} (hv : VR φ v v') (h : alen st P t v = some u) :
    (Builtin.len_ #[t] ty #[v']).run P w = .ok u w ∧ leafB u = true := by
  unfold alen at h
  split at h
  · rename_i s hu
    split at h
    · cases h
    rename_i hnm
    cases h
    cases hv with
    | opq hm => exact absurd hm hnm
    | leaf => exact ⟨by simp [Builtin.len_, run_underlying hu], rfl⟩
  · rename_i e b n c hu
    cases h
    cases hv with
    | leaf => exact ⟨by simp [Builtin.len_, run_underlying hu], rfl⟩
    | slice => exact ⟨by simp [Builtin.len_, run_underlying hu], rfl⟩
  · rename_i n e hu
    cases h
    exact ⟨by simp [Builtin.len_, run_underlying hu], rfl⟩
  · rename_i k e hu
    cases h
    cases hv with
    | leaf => exact ⟨by simp [Builtin.len_, run_underlying hu], rfl⟩
  · rename_i k e r hu
    split at h
    · rename_i es clock hr
      cases h
      cases hv with
      | leaf hl => simp [leafB] at hl
      | map hm =>
        obtain ⟨B, o, S, g, s, k1, k2, es', k3, k4, _⟩ := H.obj _ _ hr hm.ne
        unfold MR at hm
        simp only [k1] at hm
        subst hm
        refine ⟨?_, rfl⟩
        simp [Builtin.len_, run_underlying hu, getObj, Sem.run, k3, k4]
    · cases h
  · cases h
end Go.Ev
