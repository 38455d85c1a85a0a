/-
  One operation of closed code: what it gives, told by a plain function; and that the model's operation gives the same.
-/
import Derived.Test.YtnfmfofialoioaaGreatDoorEvA
import Derived.Laws.Entries
import Derived.Laws.EntriesVeiled
import Derived.Laws.AppendOwn
namespace Go.Ev
open Go Go.RowKit

def sizeB (P : Program) (t : TypeId) : Option Nat := match P.info? t with | some i => some i.size | none => none
def aggB (P : Program) (t : TypeId) : Option Bool := match P.underlying t with | some (.struct _) => some true | some (.array _ _) => some true | some _ => some false | none => none
def zeroB (P : Program) (t : TypeId) : Option Value := match P.info? t with
  | some i => match i.zero with
    | some z => if plainB 3 z then some z else none
    | none => none
  | none => none

theorem run_size {P : Program} {t : TypeId} {n : Nat} (h : sizeB P t = some n) (w : World) : (sizeOf t).run P w = .ok n w := by
  unfold sizeB at h
  split at h
  · rename_i i hi; cases h; simp [sizeOf, typeInfo, hi]
  · cases h
theorem run_agg {P : Program} {t : TypeId} {b : Bool} (h : aggB P t = some b) (w : World) : (isAgg t).run P w = .ok b w := by
  unfold aggB at h
  split at h
  · rename_i fs hu; cases h; simp [isAgg, run_underlying hu]
  · rename_i n e hu; cases h; simp [isAgg, run_underlying hu]
  · rename_i d h1 h2 hu
    cases h
    cases d <;> first | (simp [isAgg, run_underlying hu]; done) | exact absurd rfl (h1 _) | exact absurd rfl (h2 _ _)
  · cases h
theorem run_zero {P : Program} {t : TypeId} {z : Value} (h : zeroB P t = some z) (w : World) : (zeroValue t).run P w = .ok z w ∧ plainB 3 z = true := by
  unfold zeroB at h
  split at h
  · rename_i i hi
    split at h
    · rename_i z' hz
      split at h
      · rename_i hp; cases h; exact ⟨by simp [zeroValue, typeInfo, hi, hz], hp⟩
      · cases h
    · cases h
  · cases h

theorem VR.undef (φ : Pm) : VR φ undef undef := .tuple rfl fun i v v' h => by simp at h
theorem VR.cells {φ : Pm} {v v' : Value} (h : VR φ v v') : LR φ v.cells.toList v'.cells.toList := by
  cases h with
  | agg hs h => exact ⟨by simpa [Value.cells] using hs, fun i u u' a b => h i u u' (by simpa [Value.cells] using a) (by simpa [Value.cells] using b)⟩
  | leaf h => cases v <;> first | exact LR.cons (.leaf h) LR.nil | simp [leafB] at h
  | opq h hs => exact LR.cons (.opq h hs) LR.nil
  | top hr h hc => rw [hc]; exact LR.cons (.top hr h hc) LR.nil
  | ptr h => exact LR.cons (.ptr h) LR.nil
  | slice h hc => exact LR.cons (.slice h hc) LR.nil
  | map h => exact LR.cons (.map h) LR.nil
  | func a b c d => exact LR.cons (.func a b c d) LR.nil
  | iface h => exact LR.cons (.iface h) LR.nil
  | tuple a b => exact LR.cons (.tuple a b) LR.nil
theorem VR.oneCell {φ : Pm} {v v' : Value} (h : VR φ v v') : v'.oneCell' = v.oneCell' := by cases h <;> first | rfl | assumption
theorem LR.all_one {φ : Pm} {xs xs' : List Value} (h : LR φ xs xs') (k : xs.all (·.oneCell') = true) : ∀ v ∈ xs', v.oneCell' = true := by
  intro v hv
  obtain ⟨i, hi, rfl⟩ := List.mem_iff_getElem.1 hv
  have hi2 : i < xs.length := by rw [h.1]; exact hi
  have := h.2 i xs[i] xs'[i] (by simp [hi2]) (by simp [hi])
  rw [this.oneCell]
  exact List.all_eq_true.1 k _ (List.getElem_mem hi2)

theorem AR.add {φ : Pm} {a a' : Addr} (h : AR φ a a') (n : Nat) : AR φ (a.add n) (a'.add n) := by
  have hb : (a.add n).block = a.block := by unfold Addr.add; split <;> rfl
  unfold AR at *
  rw [hb]
  cases e : φ a.block with
  | none => simp [e] at h
  | val v => simp [e] at h
  | dead => trivial
  | live B o S g s =>
    simp only [e] at h ⊢
    obtain ⟨h1, rfl⟩ := h
    by_cases hn : n = 0
    · subst hn; simp [Addr.add, h1]
    · simp [Addr.add, hn, Nat.add_assoc]

/-! ### reading and writing cells -/
def aloadCells (st : St) (a : Addr) (n : Nat) : Option (List Value) :=
  match st.heap.get a.block with
  | some (.cells cs _ _ _) => if Nat.ble (a.off + n) cs.length then some ((cs.drop a.off).take n) else none
  | some (.bytes cs _) => if Nat.ble (a.off + n) cs.length then some ((cs.drop a.off).take n) else none
  | _ => none
theorem aload_at {w : World} {φ : Pm} {B o : Nat} {arr : Array Value} {elem : TypeId} {fz : Nat × Nat} (k5 : w.heap[B]? = some (.cells arr elem fz)) {cs : List Value} {S : Nat} (k6 : arr.size = S) (k7 : o + cs.length ≤ S) (k9 : LR φ cs ((arr.toList.drop o).take cs.length)) {off n : Nat} (hle : off + n ≤ cs.length) :
    ∃ l', l'.length = n ∧ LR φ ((cs.drop off).take n) l' ∧ ∀ j v, l'[j]? = some v → w.cell? ((⟨B, o + off, none⟩ : Addr).add j) = some v := by
  refine ⟨((((arr.toList.drop o).take cs.length).drop off).take n), ?_, (k9.drop _).take _, ?_⟩
  · simp; omega
  · intro j v hj
    rw [List.getElem?_take] at hj
    split at hj
    · rename_i hjn
      rw [List.getElem?_drop, List.getElem?_take, if_pos (by omega), List.getElem?_drop] at hj
      rw [Addr.add_lit]
      simp only [World.cell?, k5]
      simp only [Option.isSome_none, Bool.false_eq_true, if_false]
      rw [← Array.getElem?_toList, ← hj]
      congr 1
      omega
    · cases hj
theorem aload_cells {w0 : W0} {w : World} {φ : Pm} {st : St} (H : HR w0 φ st w) {a a' : Addr} (ha : AR φ a a') {n : Nat} {l : List Value} (h : aloadCells st a n = some l) :
    ∃ l', l'.length = n ∧ LR φ l l' ∧ ∀ j v, l'[j]? = some v → w.cell? (a'.add j) = some v := by
  unfold aloadCells at h
  split at h
  · rename_i cs elem g s hb
    split at h
    · rename_i hle
      cases h
      obtain ⟨B, o, S, g', s', k1, k2, k3, k4, arr, k5, k6, k7, k8, k9⟩ := H.obj _ _ hb ha.ne
      unfold AR at ha
      simp only [k1] at ha
      obtain ⟨h1, rfl⟩ := ha
      exact aload_at k5 k6 k7 k9 (Nat.le_of_ble_eq_true hle)
    · cases h
  · rename_i cs elem hb
    split at h
    · rename_i hle
      cases h
      obtain ⟨B, o, S, g', s', k1, k2, arr, fz, k5, k6, k7, k9⟩ := H.obj _ _ hb ha.ne
      unfold AR at ha
      simp only [k1] at ha
      obtain ⟨h1, rfl⟩ := ha
      exact aload_at k5 k6 k7 k9 (Nat.le_of_ble_eq_true hle)
    · cases h
  · cases h

def aload (P : Program) (st : St) (t : TypeId) (v : Value) : Option Value :=
  match v with
  | .pointer (some a) =>
    match aggB P t with
    | some true => match sizeB P t with
      | some n => match aloadCells st a n with
        | some l => some (.agg ⟨l⟩)
        | none => none
      | none => none
    | some false => match aloadCells st a 1 with
      | some (v :: _) => some v
      | _ => none
    | none => none
  | _ => none
theorem run_aloadVar {P : Program} {w0 : W0} {w : World} {φ : Pm} {st : St} (H : HR w0 φ st w) {a a' : Addr} (ha : AR φ a a') {t : TypeId} {u : Value} (h : aload P st t (.pointer (some a)) = some u) :
    ∃ u', (loadVar t a').run P w = .ok u' w ∧ VR φ u u' := by
  unfold aload at h
  simp only at h
  split at h
  · rename_i hg
    split at h
    · rename_i n hn
      split at h
      · rename_i l hl
        cases h
        obtain ⟨l', h1, h2, h3⟩ := aload_cells H ha hl
        have hr := run_loadCells_list (P := P) w a' l' h3
        refine ⟨.agg ⟨l'⟩, ?_, VR.agg_iff.2 h2⟩
        simp only [loadVar, Sem.run_bind, run_agg hg, Result.andThen_ok, if_true, run_size hn, ← h1, hr]
        rfl
      · cases h
    · cases h
  · rename_i hg
    split at h
    · rename_i v rest hl
      cases h
      obtain ⟨l', h1, h2, h3⟩ := aload_cells H ha hl
      match l', h1 with
      | [v'], _ =>
        have hc := h3 0 v' rfl
        rw [Addr.add_zero'] at hc
        refine ⟨v', ?_, h2.2 0 u v' rfl rfl⟩
        simp only [loadVar, Sem.run_bind, run_agg hg, Result.andThen_ok, Bool.false_eq_true, if_false, run_load, hc]
    · cases h
  · cases h

def aputCells (st : St) (a : Addr) (l : List Value) : Option St :=
  match st.heap.get a.block with
  | some (.cells cs e g s) => if Nat.ble (a.off + l.length) cs.length && l.all (·.oneCell') then some { st with heap := st.heap.put a.block (some (.cells (cs.take a.off ++ l ++ cs.drop (a.off + l.length)) e g s)) } else none
  | _ => none

/-- What lies nowhere yet stays so, and as it is told. -/
structure Kept (st : St) (φ : Pm) (st' : St) (φ' : Pm) : Prop where
  next : st.next ≤ st'.next
  le : Le φ φ'
  none : ∀ b, b < st.next → φ b = .none → φ' b = .none ∧ st'.heap.get b = st.heap.get b
theorem Kept.refl (st : St) (φ : Pm) : Kept st φ st φ := ⟨Nat.le_refl _, Le.refl _, fun _ _ h => ⟨h, rfl⟩⟩
theorem Kept.trans {a b c : St} {φ φ' φ'' : Pm} (h : Kept a φ b φ') (k : Kept b φ' c φ'') : Kept a φ c φ'' :=
  ⟨Nat.le_trans h.next k.next, h.le.trans k.le, fun x hx hn => by
    obtain ⟨h1, h2⟩ := h.none x hx hn
    obtain ⟨k1, k2⟩ := k.none x (Nat.lt_of_lt_of_le hx h.next) h1
    exact ⟨k1, k2.trans h2⟩⟩
theorem Kept.put {st : St} {φ : Pm} {b : Nat} {B o S : Nat} {g : Bool} {s : Nat} (hp : φ b = .live B o S g s) (ob : Option Ob) : Kept st φ { st with heap := st.heap.put b ob } φ :=
  ⟨Nat.le_refl _, Le.refl _, fun c _ hc => ⟨hc, by
    show (st.heap.put b ob).get c = _
    rw [Tr.get_put_eq, if_neg (fun e => by subst e; rw [hp] at hc; cases hc)]⟩⟩

theorem setRow_size (w : World) (g : Nat) (c : Array Value) : (w.setRow g c).heap.size = w.heap.size := by simp [World.setRow]

theorem seg_take {l m : List Value} {o n : Nat} (hm : o + m.length ≤ n) (hn : n ≤ l.length) (c : Nat) (hc : c ≤ o) :
    ((l.take o ++ m ++ l.drop (o + m.length)).drop c).take (n - c) = (((l.drop c).take (n - c)).take (o - c)) ++ m ++ (((l.drop c).take (n - c)).drop (o - c + m.length)) := by
  apply List.ext_getElem?
  intro j
  simp only [List.getElem?_take, List.getElem?_drop, List.getElem?_append, List.length_append, List.length_take, List.length_drop]
  repeat' split
  all_goals first
    | rfl
    | omega
    | (congr 1; omega)
    | (rw [List.getElem?_eq_none (by omega)])
    | skip

theorem aput_cells {P : Program} {w0 : W0} {w : World} {φ : Pm} {st st' : St} (H : HR w0 φ st w) {a a' : Addr} (ha : AR φ a a') {l l' : List Value} (hl : LR φ l l') (h : aputCells st a l = some st') :
    ∃ w', (storeCells a' l').run P w = .ok () w' ∧ HR w0 φ st' w' ∧ Kept st φ st' φ := by
  unfold aputCells at h
  split at h
  · rename_i cs elem g s hb
    split at h
    · rename_i hle
      cases h
      simp only [Bool.and_eq_true] at hle
      obtain ⟨hle, hone⟩ := hle
      have hle := Nat.le_of_ble_eq_true hle
      obtain ⟨B, o, S, g', s', k1, k2, k3, k4, arr, k5, k6, k7, k8, k9⟩ := H.obj _ _ hb ha.ne
      unfold AR at ha
      simp only [k1] at ha
      obtain ⟨h1, rfl⟩ := ha
      have hlen := hl.1
      have hst := run_storeCells_at P B (o + a.off) elem l' 0 arr w k5 (by omega) (hl.all_one hone)
      simp only [Nat.add_zero] at hst
      refine ⟨_, hst, ?_, Kept.put k1 _⟩
      · refine H.turn hb k1 (setRow_heap w B arr _ elem _ k5) (setRow_size _ _ _) (fun k hk => setRow_other w B k _ hk) rfl rfl rfl ⟨k3, k4, _, rfl, ?_, ?_, ?_, ?_⟩
        · simp; omega
        · simp; omega
        · intro hg; obtain ⟨e1, e2⟩ := k8 hg; exact ⟨e1, by simp; omega⟩
        · have e : (cs.take a.off ++ l ++ cs.drop (a.off + l.length)).length = cs.length := by simp; omega
          rw [e]
          have hal : arr.toList.length = S := by simpa using k6
          have seg := seg_take (l := arr.toList) (m := l') (o := o + a.off) (n := o + cs.length) (by omega) (by omega) o (by omega)
          rw [Nat.add_sub_cancel_left, Nat.add_sub_cancel_left] at seg
          show LR φ _ (((arr.toList.take (o + a.off) ++ l' ++ arr.toList.drop (o + a.off + l'.length)).drop o).take cs.length)
          rw [seg, hlen]
          exact ((k9.take _).append hl).append (k9.drop _)
    · cases h
  · cases h
end Go.Ev
