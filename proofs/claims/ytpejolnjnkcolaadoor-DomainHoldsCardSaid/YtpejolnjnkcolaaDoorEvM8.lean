/-
  A run that begins in the midst of a call: rows that lie in the world are read, and the rest of the code is run to its end.
-/
import Derived.Test.YtpejolnjnkcolaaDoorEvM7
namespace Go.Ev
open Go Go.RowKit

/-- A row that lies in the world: where, what it holds for the run, and what it holds. -/
structure Rw where
  B : Nat
  off : Nat
  cs : List Value
  vs : List Value
def rowS (w : World) (r : Rw) : Nat := match w.heap[r.B]? with
  | some (.cells arr _ _) => arr.size
  | _ => 0
def rowsφ (w0 : W0) (rs : List Rw) : Pm := fun r => if r < w0.m then .val (w0.env r) else match rs[r - w0.m]? with
  | some x => .live x.B x.off (rowS w0.w x) true 0
  | none => .none
def heapOf (m : Nat) : List Rw → Nat → Tr Ob → Tr Ob
  | [], _, t => t
  | x :: xs, i, t => heapOf m xs (i + 1) (t.put (m + i) (some (.bytes x.cs 0)))
theorem heapOf_get (m : Nat) : ∀ (rs : List Rw) (i : Nat) (t : Tr Ob) (b : Nat), (heapOf m rs i t).get b = if m + i ≤ b ∧ b < m + i + rs.length then (rs[b - (m + i)]?).map (fun x => Ob.bytes x.cs 0) else t.get b
  | [], i, t, b => by
    have : ¬ (m + i ≤ b ∧ b < m + i + ([] : List Rw).length) := by simp
    rw [if_neg this]; rfl
  | x :: xs, i, t, b => by
    simp only [heapOf, heapOf_get m xs, Tr.get_put_eq, List.length_cons]
    by_cases h1 : m + (i + 1) ≤ b ∧ b < m + (i + 1) + xs.length
    · rw [if_pos h1, if_pos (by omega), show b - (m + i) = (b - (m + (i + 1))) + 1 by omega, List.getElem?_cons_succ]
    · rw [if_neg h1]
      by_cases e : b = m + i
      · subst e
        rw [if_pos rfl, if_pos (by omega)]
        simp
      · rw [if_neg e, if_neg (by omega)]
/-- What lies in the world. -/
def Rw.lies (φ : Pm) (w : World) (x : Rw) : Prop := LR φ x.cs x.vs ∧ x.B < w.heap.size ∧ ∃ arr e fz, w.heap[x.B]? = some (.cells arr e fz) ∧ (arr.toList.drop x.off).take x.vs.length = x.vs ∧ x.off + x.vs.length ≤ arr.size
theorem rw_of_cells {w : World} {B off : Nat} {vs : List Value} (hp : 0 < vs.length) (h : ∀ i (hi : i < vs.length), w.cell? ⟨B, off + i, none⟩ = some vs[i]) :
    B < w.heap.size ∧ ∃ arr e fz, w.heap[B]? = some (.cells arr e fz) ∧ (arr.toList.drop off).take vs.length = vs ∧ off + vs.length ≤ arr.size := by
  have h0 := h 0 hp
  unfold World.cell? at h0
  split at h0
  · rename_i arr e fz hb
    refine ⟨?_, arr, e, fz, hb, ?_, ?_⟩
    · rcases Nat.lt_or_ge B w.heap.size with h' | h'
      · exact h'
      · simp [Array.getElem?_eq_none h'] at hb
    · have hall : ∀ i (hi : i < vs.length), arr[off + i]? = some vs[i] := fun i hi => by
        have := h i hi
        simp [World.cell?, hb] at this
        exact this
      apply List.ext_getElem?
      intro i
      by_cases hi : i < vs.length
      · rw [List.getElem?_take, if_pos hi, List.getElem?_drop]
        have := hall i hi
        simp only [List.getElem?_eq_getElem hi]
        rw [← this]; simp
      · rw [List.getElem?_take, if_neg hi, List.getElem?_eq_none (by omega)]
    · have := h (vs.length - 1) (by omega)
      simp [World.cell?, hb] at this
      have := (Array.getElem?_eq_some_iff.1 this).1
      omega
  · cases h0
theorem HR.rows (w0 : W0) (rs : List Rw) (hl : ∀ x ∈ rs, x.lies (rowsφ w0 rs) w0.w) : HR w0 (rowsφ w0 rs) ⟨heapOf w0.m rs 0 .leaf, w0.m + rs.length⟩ w0.w := by
  have live : ∀ b B o S g s, rowsφ w0 rs b = .live B o S g s → w0.m ≤ b ∧ ∃ x, rs[b - w0.m]? = some x ∧ B = x.B ∧ o = x.off ∧ S = rowS w0.w x ∧ g = true ∧ s = 0 := by
    intro b B o S g s h
    unfold rowsφ at h
    split at h
    · cases h
    · rename_i hb
      split at h
      · rename_i x hx
        cases h
        exact ⟨by omega, x, hx, rfl, rfl, rfl, rfl, rfl⟩
      · cases h
  refine ⟨⟨rfl, rfl, rfl, Nat.le_refl _, fun _ _ => rfl⟩, fun b hb => ?_, fun b hb => ?_, fun b ob h hn => ?_, fun b1 b2 B o1 S1 g1 s1 o2 S2 g2 s2 k0 k1 k2 => ?_, fun b B o S g s h => ?_, ?_⟩
  · simp only at hb
    unfold rowsφ
    rw [if_neg (by omega), List.getElem?_eq_none (by omega)]
  · simp only at hb ⊢
    rw [heapOf_get, if_neg (by omega), Tr.get_leaf]
  · simp only at h
    rw [heapOf_get] at h
    split at h
    · rename_i hb
      simp only [Nat.add_zero] at h hb
      cases hx : rs[b - w0.m]? with
      | none => rw [hx] at h; cases h
      | some x =>
        rw [hx] at h
        simp only [Option.map_some, Option.some.injEq] at h
        subst h
        obtain ⟨h1, h2, arr, e, fz, h3, h4, h5⟩ := hl x (List.mem_of_getElem? hx)
        refine ⟨x.B, x.off, rowS w0.w x, true, 0, ?_, (fun h => by cases h), arr, e, fz, h3, ?_, ?_, ?_⟩
        · unfold rowsφ; rw [if_neg (by omega), hx]
        · unfold rowS; rw [h3]
        · unfold rowS; rw [h3, h1.1]; exact h5
        · rw [h1.1, h4]; exact h1
    · rw [Tr.get_leaf] at h; cases h
  · obtain ⟨_, x, hx, rfl, _⟩ := live _ _ _ _ _ _ k1
    have := (hl x (List.mem_of_getElem? hx)).2.1
    omega
  · obtain ⟨_, x, hx, rfl, _⟩ := live _ _ _ _ _ _ h
    exact (hl x (List.mem_of_getElem? hx)).2.1
  · refine ⟨fun r hr => ?_, fun r v h => ?_⟩
    · unfold rowsφ; rw [if_pos hr]
    · unfold rowsφ at h
      split at h
      · cases h; rfl
      · split at h <;> cases h
theorem rowsφ_sy (w0 : W0) (rs : List Rw) : Sy w0 (rowsφ w0 rs) := ⟨fun r hr => by unfold rowsφ; rw [if_pos hr], fun r v h => by
  unfold rowsφ at h
  split at h
  · cases h; rfl
  · split at h <;> cases h⟩
theorem row_slice {w0 : W0} {rs : List Rw} {i : Nat} {x : Rw} (hx : rs[i]? = some x) {k l c c' : Nat} (hc : l ≤ c') (hlie : x.off + k ≤ rowS w0.w x) : VR (rowsφ w0 rs) (.slice (some ⟨w0.m + i, k, none⟩) l c) (.slice (some ⟨x.B, x.off + k, none⟩) l c') := by
  have e : rowsφ w0 rs (w0.m + i) = .live x.B x.off (rowS w0.w x) true 0 := by unfold rowsφ; rw [if_neg (by omega), show w0.m + i - w0.m = i by omega, hx]
  refine .slice ?_ ?_
  · unfold AR; simp only [e]; simp
  · unfold CR; simp only [e]; simp; exact ⟨hc, hlie⟩
theorem row_ptr {w0 : W0} {rs : List Rw} {i : Nat} {x : Rw} (hx : rs[i]? = some x) (k : Nat) : VR (rowsφ w0 rs) (.pointer (some ⟨w0.m + i, k, none⟩)) (.pointer (some ⟨x.B, x.off + k, none⟩)) := by
  have e : rowsφ w0 rs (w0.m + i) = .live x.B x.off (rowS w0.w x) true 0 := by unfold rowsφ; rw [if_neg (by omega), show w0.m + i - w0.m = i by omega, hx]
  refine .ptr ?_
  unfold AR; simp only [e]; simp

/-- A frame of which some slots are told. -/
def frT : List (Nat × Value) → Tr Value → Tr Value
  | [], t => t
  | (i, v) :: l, t => frT l (t.put i (some v))
def frOf (size : Nat) (l : List (Nat × Value)) : Fr := ⟨frT l .leaf, size, []⟩
theorem frT_get : ∀ (l : List (Nat × Value)) (t : Tr Value) (n : Nat) (v : Value), (frT l t).get n = some v → (n, v) ∈ l ∨ t.get n = some v
  | [], _, _, _, h => .inr h
  | (i, u) :: l, t, n, v, h => by
    rcases frT_get l _ n v h with h | h
    · exact .inl (List.mem_cons_of_mem _ h)
    · rw [Tr.get_put_eq] at h
      split at h
      · rename_i e; cases h; subst e; exact .inl (List.mem_cons_self ..)
      · exact .inr h
theorem frOf_ok {φ : Pm} {size : Nat} {l : List (Nat × Value)} {a : Act} (hs : a.tmps.size = size) (hd : a.defers = []) (h : ∀ x ∈ l, VR φ x.2 (a.tmps.getD x.1 undef)) : FrR φ (frOf size l) a := by
  refine ⟨hs, fun t v e => ?_, by rw [hd]; exact .nil⟩
  rcases frT_get l .leaf t v e with h1 | h1
  · exact h _ h1
  · rw [Tr.get_leaf] at h1; cases h1

/-- The rest of a call's code, run to its return. -/
def restB (P : Program) (oo : OpO) (call : CallF) (N : Nat) (C : Code) (rs : List ResultVar) (f : Fr) (st : St) (v : Value) : Bool := match evC P oo call N C f st with
  | some (.ret, f', st') => match f'.defers, ares P st' f' rs with
    | [], some vs => veq 8 (ares1 vs) v
    | _, _ => false
  | _ => false
theorem rest_ok {P : Program} {oo : OpO} (hm : P.follows .mixedOrders = true) {call : CallF} {w0 : W0} (hcall : CallOk P oo w0 call) {N : Nat} {C : Code} {fn : Func} {f : Fr} {st : St} {v : Value} (hv : plainB 3 v = true)
    (h : restB P oo call N C fn.results.toList f st v = true) {φ : Pm} {a : Act} {w : World} (H : HR w0 φ st w) (F : FrR φ f a) {Q : Exit → Act → World → Prop}
    (hQ : ∀ a' w', (results fn a'.tmps).run P w' = .ok v w' → a'.defers = [] → Below w0.w.heap.size w0.w w' → Q .ret a' w') : C.wp P Q a w := by
  unfold restB at h
  split at h
  · rename_i f' st' he
    split at h
    · rename_i vs hd hvs
      refine evC_wp hm hcall N C _ _ _ _ _ he φ a w H F Q fun φ' a' w' H' K' F' => ?_
      obtain ⟨vs', k1, k2⟩ := ares_ok H' F' _ _ hvs
      have hdef : a'.defers = [] := by
        have := F'.defers
        rw [hd] at this
        exact this.nil_inv
      have hk := k2.ares1
      rw [veq_eq h] at hk
      have e := plain_eq 3 v _ hv hk
      have hr := run_results k1
      rw [e] at hr
      exact hQ a' w' hr hdef H'.below
    · cases h
  · cases h
/-- A region, run to one slot's value. -/
def regB (P : Program) (oo : OpO) (call : CallF) (ops : Array Oper) (d : Bool) (f : Fr) (st : St) (t : Nat) (v : Value) : Bool := match evReg P oo call ops d f st with
  | some (f', _) => match f'.defers, f'.tmps.get t with
    | [], some u => veq 8 u v
    | _, _ => false
  | none => false
theorem reg_ok {P : Program} {oo : OpO} (hm : P.follows .mixedOrders = true) {call : CallF} {w0 : W0} (hcall : CallOk P oo w0 call) {id : Nat} {ops : Array Oper} {d : Bool} {f : Fr} {st : St} {t : Nat} {v : Value} (hv : plainB 3 v = true)
    (h : regB P oo call ops d f st t v = true) {φ : Pm} {a : Act} {w : World} (H : HR w0 φ st w) (F : FrR φ f a) {Q : Exit → Act → World → Prop}
    (hQ : ∀ a' w', a'.tmps.getD t undef = v → a'.defers = [] → Below w0.w.heap.size w0.w w' → Q .normal a' w') : (Code.region id ops d).wp P Q a w := by
  unfold regB at h
  split at h
  · rename_i f' st' he
    split at h
    · rename_i u hd hu
      refine evReg_wp hm hcall he H F fun φ' a' w' H' K' F' => ?_
      have hdef : a'.defers = [] := by
        have := F'.defers
        rw [hd] at this
        exact this.nil_inv
      have hk := F'.tmps _ _ hu
      rw [veq_eq h] at hk
      exact hQ a' w' (plain_eq 3 v _ hv hk) hdef H'.below
    · cases h
  · cases h
end Go.Ev

/-
  Calls of which one knows also what they do to the blocks.
-/
namespace Go.Ev
open Go Go.RowKit

/-- Calls that are told ahead of all others: as evCall, with 'spc' asked first. -/
def evCallS (P : Program) (oo : OpO) (orc : Orc) (spc : CallF) (tab : Tab) (xt : XTab) (N : Nat) : Nat → CallF
  | 0 => fun _ _ _ => none
  | n + 1 => fun k args st => match spc k args st with
    | some r => some r
    | none => match orc k args st with
      | some v => some (v, st)
      | none => match xt.find k with
        | some x => evX P x args st
        | none => evFn P oo (evCallS P oo orc spc tab xt N n) tab N k args st
theorem evCallS_ok {P : Program} {oo : OpO} (hm : P.follows .mixedOrders = true) {tab : Tab} (ht : tab.ok P) {xt : XTab} (hx : xt.ok P) {w0 : W0} (hoo : OpOk P w0 oo) {orc : Orc} (ho : OrcOk P w0 orc) {spc : CallF} (hs : CallOk P oo w0 spc) (N : Nat) : ∀ n, CallOk P oo w0 (evCallS P oo orc spc tab xt N n) := by
  intro n
  induction n with
  | zero => exact ⟨hoo, fun k args st v st' h => by cases h⟩
  | succ n ih =>
    refine ⟨hoo, fun k args st v st' h φ w args' H hl => ?_⟩
    simp only [evCallS] at h
    split at h
    · rename_i r hr
      cases h
      exact hs.2 _ _ _ _ _ hr φ w args' H hl
    · split at h
      · rename_i u hu
        cases h
        obtain ⟨h1, h2⟩ := ho _ _ _ _ hu φ args' w H hl
        refine .inl ⟨h1, Calls.mono h2 ?_⟩
        rintro e w' ⟨⟨v', rfl, hv⟩, hb⟩
        exact ⟨v', φ, rfl, H.past hb, Kept.refl _ _, hv⟩
      · split at h
        · rename_i x hfx
          exact .inr (evX_ok (hx _ _ hfx) h H hl)
        · exact .inl (evFn_ok hm ht ih h H hl)
def givesS (P : Program) (oo : OpO) (orc : Orc) (spc : CallF) (tab : Tab) (xt : XTab) (N n m k : Nat) (args : List Value) (v : Value) : Bool := match evFn P oo (evCallS P oo orc spc tab xt N n) tab N k args ⟨.leaf, m⟩ with
  | some (u, _) => veq 8 u v
  | none => false
theorem run_relS {P : Program} {oo : OpO} (hm : P.follows .mixedOrders = true) {tab : Tab} (ht : tab.ok P) {xt : XTab} (hx : xt.ok P) {orc : Orc} {spc : CallF} {N n m k : Nat} {w0 : W0} (hw : w0.m ≤ m) (hoo : OpOk P w0 oo) (ho : OrcOk P w0 orc) (hs : CallOk P oo w0 spc) {args args' : List Value} (hl : LR (symφ w0) args args') {v : Value} (hv : plainB 3 v = true) (h : givesS P oo orc spc tab xt N n m k args v = true) :
    Calls P k ⟨args'⟩ w0.w fun e w' => e = .returned v ∧ Below w0.w.heap.size w0.w w' := by
  unfold givesS at h
  split at h
  · rename_i u st' hu
    refine Calls.mono (evFn_ok hm ht (evCallS_ok hm ht hx hoo ho hs N n) hu (HR.start w0 hw) hl).2 ?_
    rintro e w' ⟨v', φ', rfl, h1, h2, h3⟩
    rw [veq_eq h] at h3
    rw [plain_eq 3 v v' hv h3]
    exact ⟨rfl, h1.below⟩
  · cases h

/-- A queue of one number, in a block that was grown: its number is taken; what is left is the empty end. -/
def takeS (k0 : Nat) : CallF := fun k args st => if Nat.beq k k0 then (match args with
  | [.pointer (some a)] => (match aloadCells st a 1 with
    | some [.slice (some b) l _] => (match st.heap.get b.block with
      | some (.cells [.int .i64 n] e true s) => if Nat.beq l 1 && (Nat.beq b.off 0 && Nat.beq s 1) then (match aputCells ⟨(st.heap.put b.block none).put st.next (some (.cells [] e true 1)), st.next + 1⟩ a [.slice (some ⟨st.next, 0, none⟩) 0 0] with
        | some st2 => some (.tuple #[.int .i64 n, .bool true], st2)
        | none => none) else none
      | _ => none)
    | _ => none)
  | _ => none) else none
theorem storeCells_one {P : Program} {w : World} {b o : Nat} {v u : Value} (h1 : v.oneCell' = true) (hc : w.cell? ⟨b, o, none⟩ = some u) (hf : w.frozen? ⟨b, o, none⟩ = false) : Sem.run P (storeCells ⟨b, o, none⟩ [v]) w = .ok () (w.setCell ⟨b, o, none⟩ v) := by
  have hst := run_store P w ⟨b, o, none⟩ v .plain h1
  rw [hc] at hst
  simp only [hf] at hst
  have e0 : (⟨b, o, none⟩ : Addr).add 0 = ⟨b, o, none⟩ := by simp [Addr.add]
  simp [storeCells, e0, hst]
theorem AR.inv_ptr {φ : Pm} {a : Addr} {v : Value} (h : VR φ (.pointer (some a)) v) : ∃ a', v = .pointer (some a') ∧ AR φ a a' := by
  cases h with
  | leaf hl => simp [leafB] at hl
  | ptr h => exact ⟨_, rfl, h⟩
theorem VR.inv_slice {φ : Pm} {a : Addr} {l c : Nat} {v : Value} (h : VR φ (.slice (some a) l c) v) : ∃ a' c', v = .slice (some a') l c' ∧ AR φ a a' ∧ CR φ a l c c' := by
  cases h with
  | leaf hl => simp [leafB] at hl
  | slice h hc => exact ⟨_, _, rfl, h, hc⟩
/-- A taken number's contract. -/
def TakeOk (P : Program) (k0 : Nat) : Prop := (∀ args w, (callFunc k0 args).run P w = .ok (.enter k0 args) w) ∧ ∀ (qb qo B o c : Nat) (n : Int) (w : World), w.cell? ⟨qb, qo, none⟩ = some (.slice (some ⟨B, o, none⟩) 1 c) → w.cell? ⟨B, o, none⟩ = some (.int .i64 n) → w.frozen? ⟨qb, qo, none⟩ = false → 1 ≤ c →
  Calls P k0 #[.pointer (some ⟨qb, qo, none⟩)] w fun e w' => e = .returned (.tuple #[.int .i64 n, .bool true]) ∧ w' = (w.setCell ⟨qb, qo, none⟩ (.slice (some ⟨B, if c = 1 then o else o + 1, none⟩) 0 (c - 1))).drew
theorem takeS_ok {P : Program} {oo : OpO} {w0 : W0} {k0 : Nat} (hoo : OpOk P w0 oo) (ht : TakeOk P k0) : CallOk P oo w0 (takeS k0) := by
  refine ⟨hoo, fun k args st v st' h φ w args' H hl => ?_⟩
  unfold takeS at h
  split at h
  · rename_i hk
    obtain rfl := Nat.eq_of_beq_eq_true hk
    split at h
    · rename_i a
      split at h
      · rename_i b l cc hq
        split at h
        · rename_i n e s hb
          split at h
          · rename_i hg
            simp only [Bool.and_eq_true] at hg
            obtain ⟨g1, g2, g3⟩ := hg
            have g1 := Nat.eq_of_beq_eq_true g1
            have g2 := Nat.eq_of_beq_eq_true g2
            have g3 := Nat.eq_of_beq_eq_true g3
            subst g1 g3
            split at h
            · rename_i st2 hput
              cases h
              obtain ⟨v1, rfl⟩ : ∃ v1, args' = [v1] := by
                rcases args' with _ | ⟨v1, _ | ⟨v2, r⟩⟩
                · exact absurd hl.1 (by simp)
                · exact ⟨v1, rfl⟩
                · exact absurd hl.1 (by simp)
              obtain ⟨a', rfl, ha⟩ := AR.inv_ptr hl.cons_inv.1
              obtain ⟨l', q1, q2, q3⟩ := aload_cells H ha hq
              obtain ⟨v2, rfl⟩ : ∃ v2, l' = [v2] := by
                rcases l' with _ | ⟨v1, _ | ⟨v2, r⟩⟩
                · simp at q1
                · exact ⟨v1, rfl⟩
                · simp at q1
              have hq0 := q3 0 v2 rfl
              rw [Addr.add_zero'] at hq0
              obtain ⟨b', c', rfl, hb1, hb2⟩ := VR.inv_slice q2.cons_inv.1
              obtain ⟨B, o, S, g', s', k1, k2, k3, k4, arr, k5, k6, k7, k8, k9⟩ := H.obj _ _ hb hb1.ne
              subst k3 k4
              have hb1' := hb1
              unfold AR at hb1
              unfold CR at hb2
              simp only [k1] at hb1 hb2
              obtain ⟨-, rfl⟩ := hb1
              simp only [if_true, g2, Nat.add_zero, Nat.mul_one] at hb2 hq0
              obtain ⟨c1, c2⟩ := hb2
              have hfr : φ st.next = .none := H.fresh _ (Nat.le_refl _)
              have hcell : w.cell? ⟨B, o, none⟩ = some (.int .i64 n) := by
                have e1 := k9.2 0 (.int .i64 n) (arr.toList[o]'(by simp at k7; simp; omega)) rfl (by simp)
                have e2 := plain_eq 3 _ _ rfl e1
                rw [Array.getElem_toList] at e2
                simp [World.cell?, k5, Array.getElem?_eq_getElem (show o < arr.size by simp at k7; omega), e2]
              -- the empty end, as a block of its own
              obtain ⟨H1, hle1⟩ := H.move hb rfl k1 hfr (Nat.le_succ _) (Nat.lt_succ_self _) (o2 := if c' = 1 then o else o + 1) (g2 := true) (s2 := 1) (ob := .cells [] e true 1) k5 rfl (fun _ _ => rfl) rfl rfl rfl ⟨rfl, rfl, arr, rfl, k6, by split <;> simp <;> omega, (fun e => by cases e), by exact ⟨by simp, fun i x y hi => by simp at hi⟩⟩
              have hnb : st.next ≠ b.block := by have := H.lt hb; omega
              have ha1 := ha.mono hle1
              have hv1 : VR ((φ.tell b.block .dead).tell st.next (.live B (if c' = 1 then o else o + 1) S true 1)) (.slice (some ⟨st.next, 0, none⟩) 0 0) (.slice (some ⟨B, if c' = 1 then o else o + 1, none⟩) 0 (c' - 1)) := by
                refine .slice ?_ ?_
                · unfold AR; simp [Pm.tell_same]
                · unfold CR
                  simp only [Pm.tell_same, if_true]
                  refine ⟨Nat.zero_le _, ?_⟩
                  split <;> omega
              obtain ⟨w', hst, H2, hk2⟩ := aput_cells (P := P) H1 ha1 (LR.cons hv1 LR.nil) hput
              -- where the queue lies
              have haq : ∃ qb qo, a' = ⟨qb, qo, none⟩ ∧ w.frozen? ⟨qb, qo, none⟩ = false := by
                have hp := hput
                unfold aputCells at hp
                split at hp
                · rename_i cs1 e1 g1 s1 hcs
                  have hcs0 := hcs
                  simp only [Tr.get_put_eq] at hcs
                  obtain ⟨QB, qo, QS, qg, qs, j1, j2, j3, j4, qarr, j5, j6, j7, j8, j9⟩ := H1.obj _ _ hcs0 ha1.ne
                  unfold AR at ha1
                  simp only [j1] at ha1
                  obtain ⟨-, rfl⟩ := ha1
                  exact ⟨_, _, rfl, by simp [World.frozen?, j5]⟩
                · cases hp
              obtain ⟨qb, qo, rfl, hfz⟩ := haq
              have hw : w' = w.setCell ⟨qb, qo, none⟩ (.slice (some ⟨B, if c' = 1 then o else o + 1, none⟩) 0 (c' - 1)) := by
                rw [storeCells_one rfl hq0 hfz] at hst
                exact (Result.ok.inj hst).2.symm
              refine .inl ⟨fun w => ht.1 _ w, Calls.mono (ht.2 qb qo B o c' n w hq0 hcell hfz c1) ?_⟩
              rintro e' w2 ⟨rfl, rfl⟩
              refine ⟨_, (φ.tell b.block .dead).tell st.next (.live B (if c' = 1 then o else o + 1) S true 1), rfl, ?_, ?_, plain_refl 3 _ rfl⟩
              · rw [← hw]; exact H2.same (Same.drew w')
              · refine Kept.trans (b := ⟨(st.heap.put b.block none).put st.next (some (.cells [] e true 1)), st.next + 1⟩) ⟨Nat.le_succ _, hle1, fun d hd hno => ⟨?_, ?_⟩⟩ hk2
                · rw [Pm.tell_other _ _ _ _ (by omega), Pm.tell_other _ _ _ _ (fun e => by subst e; rw [k1] at hno; cases hno)]; exact hno
                · show ((st.heap.put b.block none).put st.next _).get d = _
                  rw [Tr.get_put_eq, if_neg (by omega), Tr.get_put_eq, if_neg (fun e => by subst e; rw [k1] at hno; cases hno)]
            · cases h
          · cases h
        · cases h
      · cases h
    · cases h
  · cases h

/-- The numbers whose bits are set, of words of 64 bits. -/
def bitsOf : Nat → Nat → Nat → List Nat
  | 0, _, _ => []
  | f + 1, i, x => if Nat.beq x 0 then [] else if Nat.beq (x % 2) 1 then i :: bitsOf f (i + 1) (x / 2) else bitsOf f (i + 1) (x / 2)
def allBits : Nat → List Nat → List Nat
  | _, [] => []
  | k, w :: ws => bitsOf 64 (64 * k) w ++ allBits (k + 1) ws
/-- Numbers in order as ranges; the last range first. -/
def addNum : List (Nat × Nat) → Nat → List (Nat × Nat)
  | [], v => [(v, v)]
  | (a, b) :: r, v => if Nat.beq (b + 1) v then (a, v) :: r else (v, v) :: (a, b) :: r
def rangesOf (l : List Nat) : List (Nat × Nat) := (l.foldl addNum []).reverse
def pairCells : List (Nat × Nat) → List Value
  | [] => []
  | (a, b) :: r => .int .i64 a :: .int .i64 b :: pairCells r
def u64s : List Value → Option (List Nat)
  | [] => some []
  | v :: l => match v with
    | .int .u64 (.ofNat n) => if Nat.blt n 18446744073709551616 then (match u64s l with
      | some ns => some (n :: ns)
      | none => none) else none
    | _ => none
/-- A set's ranges. -/
def rangesS (k0 e : Nat) : CallF := fun k args st => if Nat.beq k k0 then (match args with
  | [.pointer (some a)] => (match aloadCells st a 16 with
    | some l => (match u64s l with
      | some ws => if Nat.blt 0 (rangesOf (allBits 0 ws)).length then some (.slice (some ⟨st.next, 0, none⟩) (rangesOf (allBits 0 ws)).length (rangesOf (allBits 0 ws)).length, ⟨st.heap.put st.next (some (.cells (pairCells (rangesOf (allBits 0 ws))) e true 2)), st.next + 1⟩) else none
      | none => none)
    | none => none)
  | _ => none) else none
/-- A block of the call's own that a callee has left. -/
theorem HR.adopt {w0 : W0} {w : World} {φ : Pm} {st : St} (h : HR w0 φ st w) {B : Nat} (hB : ∀ b B' o S g s, φ b = .live B' o S g s → B' ≠ B) (hown : w0.w.heap.size ≤ B) (hlt : B < w.heap.size) {ob : Ob} {S : Nat} {g : Bool} {s : Nat}
    (ho : OR (φ.tell st.next (.live B 0 S g s)) ob w.heap[B]? 0 S g s) :
    HR w0 (φ.tell st.next (.live B 0 S g s)) ⟨st.heap.put st.next (some ob), st.next + 1⟩ w ∧ Kept st φ ⟨st.heap.put st.next (some ob), st.next + 1⟩ (φ.tell st.next (.live B 0 S g s)) := by
  have hb := h.fresh st.next (Nat.le_refl _)
  have hle : Le φ (φ.tell st.next (.live B 0 S g s)) := Le.tell hb
  refine ⟨⟨h.below, ?_, ?_, ?_, ?_, ?_, ?_⟩, Nat.le_succ _, hle, fun c hc hn => ⟨?_, ?_⟩⟩
  · intro c hc
    rw [Pm.tell_other _ _ _ _ (by simp at hc; omega)]
    exact h.fresh c (by simp at hc; omega)
  · intro c hc
    simp only at hc ⊢
    rw [Tr.get_put_eq, if_neg (by omega)]
    exact h.absent c (by omega)
  · intro c x hc hcn
    simp only [Tr.get_put_eq] at hc
    by_cases e : c = st.next
    · subst e
      simp only [if_true] at hc
      cases hc
      exact ⟨B, 0, S, g, s, Pm.tell_same _ _ _, fun _ => hown, ho⟩
    · simp only [e, if_false] at hc
      rw [Pm.tell_other _ _ _ _ e] at hcn
      obtain ⟨B', o, S', g', s', k1, k2, k3⟩ := h.obj c x hc hcn
      exact ⟨B', o, S', g', s', by rw [Pm.tell_other _ _ _ _ e]; exact k1, k2, k3.mono hle⟩
  · intro b1 b2 B' o1 S1 g1 s1 o2 S2 g2 s2 k0 k1 k2
    by_cases e1 : b1 = st.next
    · by_cases e2 : b2 = st.next
      · rw [e1, e2]
      · subst e1
        rw [Pm.tell_same] at k1
        rw [Pm.tell_other _ _ _ _ e2] at k2
        cases k1
        exact absurd rfl (hB _ _ _ _ _ _ k2)
    · rw [Pm.tell_other _ _ _ _ e1] at k1
      by_cases e2 : b2 = st.next
      · subst e2
        rw [Pm.tell_same] at k2
        cases k2
        exact absurd rfl (hB _ _ _ _ _ _ k1)
      · rw [Pm.tell_other _ _ _ _ e2] at k2
        exact h.inj _ _ _ _ _ _ _ _ _ _ _ k0 k1 k2
  · intro c B' o S' g' s' k
    by_cases e : c = st.next
    · subst e; rw [Pm.tell_same] at k; cases k; exact hlt
    · rw [Pm.tell_other _ _ _ _ e] at k
      exact h.used _ _ _ _ _ _ k
  · refine ⟨fun r hr => ?_, fun r v k => ?_⟩
    · have hv := h.sym.1 r hr
      rw [Pm.tell_other _ _ _ _ (fun e => by subst e; rw [hv] at hb; cases hb)]; exact hv
    · by_cases e : r = st.next
      · subst e; rw [Pm.tell_same] at k; cases k
      · rw [Pm.tell_other _ _ _ _ e] at k; exact h.sym.2 r v k
  · rw [Pm.tell_other _ _ _ _ (by omega)]; exact hn
  · show (st.heap.put st.next _).get c = _
    rw [Tr.get_put_eq, if_neg (by omega)]
theorem u64s_eq : ∀ {l : List Value} {ns : List Nat}, u64s l = some ns → l = ns.map (fun n => .int .u64 (n : Int)) ∧ ∀ x ∈ ns, x < 18446744073709551616
  | [], _, h => by cases h; exact ⟨rfl, fun x hx => by cases hx⟩
  | v :: l, ns, h => by
    simp only [u64s] at h
    split at h
    · rename_i n
      split at h
      · rename_i hn
        split at h
        · rename_i ns' hs
          cases h
          obtain ⟨e1, e2⟩ := u64s_eq hs
          refine ⟨by rw [e1]; rfl, fun x hx => ?_⟩
          rcases List.mem_cons.1 hx with rfl | hx
          · simpa [Nat.blt, Nat.lt_iff_add_one_le] using hn
          · exact e2 x hx
        · cases h
      · cases h
    · cases h
theorem pairCells_plain : ∀ (l : List (Nat × Nat)), (pairCells l).all (plainB 3) = true
  | [] => rfl
  | (_, _) :: l => by rw [pairCells, List.all_cons, List.all_cons, pairCells_plain l]; rfl
theorem plain_LR {φ : Pm} {l : List Value} (h : l.all (plainB 3) = true) : LR φ l l := ⟨rfl, fun i x y hx hy => by
  rw [hx] at hy; cases hy
  exact plain_refl 3 _ (List.all_eq_true.1 h _ (List.mem_of_getElem? hx))⟩
/-- What the ranges of sixteen words are, in worlds behind w0. -/
def RangesOk (P : Program) (w0 : World) (k0 e : Nat) : Prop := (∀ args w, (callFunc k0 args).run P w = .ok (.enter k0 args) w) ∧ ∀ (sb so : Nat) (ws : List Nat) (w : World), Below w0.heap.size w0 w → sb < w.heap.size → ws.length = 16 → (∀ x ∈ ws, x < 18446744073709551616) → (∀ j (h : j < ws.length), w.cell? ⟨sb, so + j, none⟩ = some (.int .u64 ws[j])) →
  Calls P k0 #[.pointer (some ⟨sb, so, none⟩)] w fun x w' => ∃ v, x = .returned v ∧ w'.ownsRow w.heap.size e 2 v (rangesOf (allBits 0 ws)).length (pairCells (rangesOf (allBits 0 ws))) ∧ Below w.heap.size w w'
theorem rangesS_ok {P : Program} {oo : OpO} {w0 : W0} {k0 e : Nat} (hoo : OpOk P w0 oo) (hr : RangesOk P w0.w k0 e) : CallOk P oo w0 (rangesS k0 e) := by
  refine ⟨hoo, fun k args st v st' h φ w args' H hl => ?_⟩
  unfold rangesS at h
  split at h
  · rename_i hk
    obtain rfl := Nat.eq_of_beq_eq_true hk
    split at h
    · rename_i a
      split at h
      · rename_i l hq
        split at h
        · rename_i ws hws
          split at h
          · rename_i hpos
            have hpos : 0 < (rangesOf (allBits 0 ws)).length := by simp [Nat.blt] at hpos; omega
            cases h
            obtain ⟨v1, rfl⟩ : ∃ v1, args' = [v1] := by
              rcases args' with _ | ⟨v1, _ | ⟨v2, r⟩⟩
              · exact absurd hl.1 (by simp)
              · exact ⟨v1, rfl⟩
              · exact absurd hl.1 (by simp)
            obtain ⟨a', rfl, ha⟩ := AR.inv_ptr hl.cons_inv.1
            obtain ⟨l', q1, q2, q3⟩ := aload_cells H ha hq
            obtain ⟨rfl, hwide⟩ := u64s_eq hws
            have hsame : l' = ws.map fun n : Nat => .int .u64 (n : Int) := by
              have e1 := plain_list0 (d := 0) (xs := ws.map fun n : Nat => .int .u64 (n : Int)) (by rw [List.all_eq_true]; intro v hv; obtain ⟨n, _, rfl⟩ := List.mem_map.1 hv; rfl) q2
              exact e1
            subst hsame
            have hlen : ws.length = 16 := by simpa using q1
            -- where the words lie
            have hpl : ∃ sb so, a' = ⟨sb, so, none⟩ ∧ sb < w.heap.size := by
              have hq0 := hq
              unfold aloadCells at hq0
              have key : ∀ ob, st.heap.get a.block = some ob → ∃ sb so, a' = ⟨sb, so, none⟩ ∧ sb < w.heap.size := fun ob hob => by
                obtain ⟨QB, qo, QS, qg, qs, j1, j2, j3⟩ := H.obj _ _ hob ha.ne
                have ha2 := ha
                unfold AR at ha2
                simp only [j1] at ha2
                obtain ⟨-, rfl⟩ := ha2
                exact ⟨_, _, rfl, H.used _ _ _ _ _ _ j1⟩
              split at hq0
              · rename_i hcs; exact key _ hcs
              · rename_i hcs; exact key _ hcs
              · cases hq0
            obtain ⟨sb, so, rfl, hsb⟩ := hpl
            have hcell : ∀ j (h : j < ws.length), w.cell? ⟨sb, so + j, none⟩ = some (.int .u64 ws[j]) := fun j hj => by
              have := q3 j (.int .u64 ws[j]) (by simp [hj])
              rwa [Addr.add_lit] at this
            refine .inl ⟨fun w => hr.1 _ w, Calls.mono (hr.2 sb so ws w H.below hsb hlen ?_ hcell) ?_⟩
            · exact hwide
            · rintro x w' ⟨v, rfl, ⟨hz, hrow⟩, hb⟩
              rcases hrow with ⟨_, h0⟩ | ⟨g, cap, cur, rfl, hbg, hg, hc1, hc2, hc3, hc4⟩
              · omega
              have hgl : g < w'.heap.size := (Array.getElem?_eq_some_iff.1 hg).1
              have hsz := H.below.size
              obtain ⟨H2, K2⟩ := (H.past hb).adopt (B := g) (fun b B' o S g1 s k e => by have := H.used _ _ _ _ _ _ k; omega) (by omega) hgl (ob := .cells (pairCells (rangesOf (allBits 0 ws))) e true 2) (S := cap * 2) (g := true) (s := 2)
                ⟨rfl, rfl, cur, hg, hc3, by rw [hz]; simp; omega, (fun e => by cases e), by rw [hz, List.drop_zero, hc4]; exact plain_LR (pairCells_plain _)⟩
              refine ⟨_, _, rfl, H2, K2, .slice ?_ ?_⟩
              · unfold AR; simp [Pm.tell_same]
              · unfold CR
                simp only [Pm.tell_same, if_true]
                exact ⟨hc1, by omega⟩
          · cases h
        · cases h
      · cases h
    · cases h
  · cases h
def orS (a b : CallF) : CallF := fun k args st => match a k args st with
  | some r => some r
  | none => b k args st
theorem orS_ok {P : Program} {oo : OpO} {w0 : W0} {a b : CallF} (ha : CallOk P oo w0 a) (hb : CallOk P oo w0 b) : CallOk P oo w0 (orS a b) := by
  refine ⟨ha.1, fun k args st v st' h φ w args' H hl => ?_⟩
  unfold orS at h
  split at h
  · rename_i r hr
    cases h
    exact ha.2 _ _ _ _ _ hr φ w args' H hl
  · exact hb.2 _ _ _ _ _ h φ w args' H hl
end Go.Ev

/-
  What is known of calls and of operations, as tables.
-/
namespace Go.Ev
open Go Go.RowKit

/-- The value that an abstract one stands for: symbols, structs of them, and plain ones. -/
def conc1 (env : Nat → Value) : Value → Value
  | .chan (some r) => env r
  | v => v
def conc (env : Nat → Value) : Value → Value
  | .agg xs => .agg ⟨xs.toList.map (conc1 env)⟩
  | v => conc1 env v
def simp1 (m : Nat) : Value → Bool
  | .chan (some r) => Nat.blt r m
  | v => leafB v
def simpV (m : Nat) : Value → Bool
  | .agg xs => xs.toList.all (simp1 m)
  | v => simp1 m v
theorem conc1_leaf {env : Nat → Value} {v : Value} (h : leafB v = true) : conc1 env v = v := by
  unfold conc1
  split
  · simp [leafB] at h
  · rfl
theorem conc1_of {w0 : W0} {φ : Pm} (sy : Sy w0 φ) {v v' : Value} (h : simp1 w0.m v = true) (hv : VR φ v v') : v' = conc1 w0.env v := by
  unfold simp1 at h
  split at h
  · exact one_sym sy hv
  · rename_i hn
    rw [conc1_leaf h]
    exact plain_eq 0 _ _ h hv
theorem conc1_rel {w0 : W0} {φ : Pm} (sy : Sy w0 φ) {v : Value} (h : simp1 w0.m v = true) : VR φ v (conc1 w0.env v) := by
  unfold simp1 at h
  split at h
  · rename_i r
    exact VR.sym sy (by simp [Nat.blt] at h; omega)
  · rw [conc1_leaf h]
    exact .leaf h
theorem conc_of {w0 : W0} {φ : Pm} (sy : Sy w0 φ) {v v' : Value} (h : simpV w0.m v = true) (hv : VR φ v v') : v' = conc w0.env v := by
  unfold simpV at h
  split at h
  · rename_i xs
    cases hv with
    | leaf hl => simp [leafB] at hl
    | @agg _ xs' hs hh =>
      simp only [conc]
      congr 1
      apply Array.ext (by simp [hs])
      intro i h1 h2
      have hi : i < xs.size := by omega
      have hx : simp1 w0.m xs[i] = true := List.all_eq_true.1 h _ (by simp)
      have := conc1_of sy hx (hh i xs[i] xs'[i] (by simp [hi]) (by simp [h1]))
      rw [this]
      simp
  · rename_i hn
    have e : conc w0.env v = conc1 w0.env v := by
      unfold conc
      split
      · rename_i xs; exact absurd rfl (hn xs)
      · rfl
    rw [e]
    exact conc1_of sy h hv
theorem conc_rel {w0 : W0} {φ : Pm} (sy : Sy w0 φ) {v : Value} (h : simpV w0.m v = true) : VR φ v (conc w0.env v) := by
  unfold simpV at h
  split at h
  · rename_i xs
    refine .agg (by simp) fun i a b ha hb => ?_
    have hi : i < xs.size := (Array.getElem?_eq_some_iff.1 ha).1
    have hx : simp1 w0.m a = true := List.all_eq_true.1 h _ (by rw [← (Array.getElem?_eq_some_iff.1 ha).2]; simp)
    have hb2 : b = conc1 w0.env a := by
      have h1 := (Array.getElem?_eq_some_iff.1 ha).2
      simp [hi] at hb
      rw [← hb, ← h1]
    rw [hb2]
    exact conc1_rel sy hx
  · rename_i hn
    have e : conc w0.env v = conc1 w0.env v := by
      unfold conc
      split
      · rename_i xs; exact absurd rfl (hn xs)
      · rfl
    rw [e]
    exact conc1_rel sy h
theorem conc_list {w0 : W0} {φ : Pm} (sy : Sy w0 φ) : ∀ {l l' : List Value}, l.all (simpV w0.m) = true → LR φ l l' → l' = l.map (conc w0.env)
  | [], [], _, _ => rfl
  | [], _ :: _, _, h => absurd h.1 (by simp)
  | _ :: _, [], _, h => absurd h.1 (by simp)
  | x :: l, x' :: l', h, k => by
    rw [List.all_cons, Bool.and_eq_true] at h
    obtain ⟨k1, k2⟩ := k.cons_inv
    rw [List.map_cons, ← conc_of sy h.1 k1, ← conc_list sy h.2 k2]

/-! ### calls -/
structure Ent where
  k : Nat
  as : List Value
  r : Value
def entO : List Ent → Orc
  | [] => fun _ _ _ => none
  | e :: l => fun k args st => if Nat.beq k e.k && listEq (veq 8) args e.as then some e.r else entO l k args st
structure Ent.Ok (P : Program) (w0 : W0) (e : Ent) : Prop where
  as : e.as.all (simpV w0.m) = true
  r : simpV w0.m e.r = true
  enter : ∀ args w, (callFunc e.k args).run P w = .ok (.enter e.k args) w
  call : ∀ w, Below w0.w.heap.size w0.w w → Calls P e.k ⟨e.as.map (conc w0.env)⟩ w fun x w' => x = .returned (conc w0.env e.r) ∧ Below w.heap.size w w'
theorem entO_ok {P : Program} {w0 : W0} : ∀ {l : List Ent}, (∀ e ∈ l, e.Ok P w0) → OrcOk P w0 (entO l)
  | [], _ => fun k args st v h => by cases h
  | e :: l, hl => fun k args st v h φ args' w H k2 => by
    simp only [entO] at h
    split at h
    · rename_i hc
      simp only [Bool.and_eq_true] at hc
      obtain ⟨c1, c2⟩ := hc
      obtain rfl := Nat.eq_of_beq_eq_true c1
      obtain rfl := list_eq (fun _ _ => veq_eq) c2
      cases h
      have ho := hl e (List.mem_cons_self ..)
      rw [conc_list H.sym ho.as k2]
      refine ⟨fun w => ho.enter _ w, Calls.mono (ho.call w H.below) ?_⟩
      rintro x w' ⟨rfl, hb⟩
      exact ⟨⟨_, rfl, conc_rel H.sym ho.r⟩, hb⟩
    · exact entO_ok (fun e he => hl e (List.mem_cons_of_mem _ he)) k args st v h φ args' w H k2
/-- One behind another. -/
def orO (a b : Orc) : Orc := fun k args st => match a k args st with
  | some v => some v
  | none => b k args st
theorem orO_ok {P : Program} {w0 : W0} {a b : Orc} (ha : OrcOk P w0 a) (hb : OrcOk P w0 b) : OrcOk P w0 (orO a b) := by
  intro k args st v h
  unfold orO at h
  split at h
  · rename_i u hu
    cases h
    exact ha k args st _ hu
  · exact hb k args st v h

/-! ### operations on two values -/
structure BinE where
  b : BinOp
  t : Nat
  x : Value
  y : Value
  r : Value
def binF : List BinE → BinOp → TypeId → Value → Value → Option Value
  | [], _, _, _, _ => none
  | e :: l, b, t, x, y => if decide (b = e.b) && Nat.beq t e.t && (veq 8 x e.x && veq 8 y e.y) then some e.r else binF l b t x y
structure BinE.Ok (P : Program) (w0 : W0) (e : BinE) : Prop where
  x : simpV w0.m e.x = true
  y : simpV w0.m e.y = true
  r : simpV w0.m e.r = true
  run : ∀ xo yo w, (do eqGuard e.b e.t xo yo (conc w0.env e.x) (conc w0.env e.y); binOp e.b e.t (conc w0.env e.x) (conc w0.env e.y) : Sem Value).run P w = .ok (conc w0.env e.r) w
theorem binF_ok {P : Program} {w0 : W0} : ∀ {l : List BinE}, (∀ e ∈ l, e.Ok P w0) → ∀ b t v u r, binF l b t v u = some r → ∀ φ, Sy w0 φ → ∀ v' u', VR φ v v' → VR φ u u' → ∀ xo yo w, ∃ r', (do eqGuard b t xo yo v' u'; binOp b t v' u' : Sem Value).run P w = .ok r' w ∧ VR φ r r'
  | [], _, _, _, _, _, _, h => by cases h
  | e :: l, hl, b, t, v, u, r, h => fun φ sy v' u' hv hu xo yo w => by
    simp only [binF] at h
    split at h
    · rename_i hc
      simp only [Bool.and_eq_true, decide_eq_true_eq] at hc
      obtain ⟨⟨c1, c2⟩, c3, c4⟩ := hc
      subst c1
      obtain rfl := Nat.eq_of_beq_eq_true c2
      obtain rfl := veq_eq c3
      obtain rfl := veq_eq c4
      cases h
      have ho := hl e (List.mem_cons_self ..)
      rw [conc_of sy ho.x hv, conc_of sy ho.y hu]
      exact ⟨_, ho.run xo yo w, conc_rel sy ho.r⟩
    · exact binF_ok (fun e he => hl e (List.mem_cons_of_mem _ he)) b t v u r h φ sy v' u' hv hu xo yo w
def binO (l : List BinE) : OpO := ⟨binF l, fun _ _ => none, fun _ _ => none⟩
theorem binO_ok {P : Program} {w0 : W0} {l : List BinE} (h : ∀ e ∈ l, e.Ok P w0) : OpOk P w0 (binO l) := ⟨binF_ok h, fun _ _ _ h => (nomatch h), fun _ _ _ h => (nomatch h)⟩

/-! ### a call that is given rows too -/
def givesR (P : Program) (oo : OpO) (orc : Orc) (tab : Tab) (xt : XTab) (N n m : Nat) (rs : List Rw) (k : Nat) (args : List Value) (v : Value) : Bool := match evFn P oo (evCall P oo orc tab xt N n) tab N k args ⟨heapOf m rs 0 .leaf, m + rs.length⟩ with
  | some (u, _) => veq 8 u v
  | none => false
theorem run_rows {P : Program} {oo : OpO} (hm : P.follows .mixedOrders = true) {tab : Tab} (ht : tab.ok P) {xt : XTab} (hx : xt.ok P) {orc : Orc} {N n k : Nat} {w0 : W0} (hoo : OpOk P w0 oo) (ho : OrcOk P w0 orc) {rs : List Rw} (hl : ∀ x ∈ rs, x.lies (rowsφ w0 rs) w0.w) {args args' : List Value} (ha : LR (rowsφ w0 rs) args args') {v : Value} (hv : plainB 3 v = true)
    (h : givesR P oo orc tab xt N n w0.m rs k args v = true) :
    Calls P k ⟨args'⟩ w0.w fun e w' => e = .returned v ∧ Below w0.w.heap.size w0.w w' := by
  unfold givesR at h
  split at h
  · rename_i u st' hu
    refine Calls.mono (evFn_ok hm ht (evCall_ok hm ht hx hoo ho N n) hu (HR.rows w0 rs hl) ha).2 ?_
    rintro e w' ⟨v', φ', rfl, h1, h2, h3⟩
    rw [veq_eq h] at h3
    rw [plain_eq 3 v v' hv h3]
    exact ⟨rfl, h1.below⟩
  · cases h
end Go.Ev
