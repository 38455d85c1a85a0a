/-
  Calls of which one knows also what they do to the blocks.
-/
import Derived.Test.YtjhlodbhchdkbaaGreatDoorEvM7
namespace Go.Ev
open Go Go.RowKit

/-- Calls that are told ahead of all others: as evCall, with 'spc' asked first. -/
def evCallS (P : Program) (oo : OpO) (orc : Orc) (spc : CallF) (tab : Tab) (xt : XTab) (N : Nat) : Nat → CallF
  | 0 => fun _ _ _ => none
  | n + 1 => fun k args st => match spc k args st with
    | some r => some r
    | none => match orc k args st with
      | some v => some (v, st)
      | none => match xt.find k with
        | some x => evX P x args st
        | none => evFn P oo (evCallS P oo orc spc tab xt N n) tab N k args st
theorem evCallS_ok {P : Program} {oo : OpO} (hm : P.follows .mixedOrders = true) {tab : Tab} (ht : tab.ok P) {xt : XTab} (hx : xt.ok P) {w0 : W0} (hoo : OpOk P w0 oo) {orc : Orc} (ho : OrcOk P w0 orc) {spc : CallF} (hs : CallOk P oo w0 spc) (N : Nat) : ∀ n, CallOk P oo w0 (evCallS P oo orc spc tab xt N n) := by
  intro n
  induction n with
  | zero => exact ⟨hoo, fun k args st v st' h => by cases h⟩
  | succ n ih =>
    refine ⟨hoo, fun k args st v st' h φ w args' H hl => ?_⟩
    simp only [evCallS] at h
    split at h
    · rename_i r hr
      cases h
      exact hs.2 _ _ _ _ _ hr φ w args' H hl
    · split at h
      · rename_i u hu
        cases h
        obtain ⟨h1, h2⟩ := ho _ _ _ _ hu φ args' w H hl
        refine .inl ⟨h1, Calls.mono h2 ?_⟩
        rintro e w' ⟨⟨v', rfl, hv⟩, hb⟩
        exact ⟨v', φ, rfl, H.past hb, Kept.refl _ _, hv⟩
      · split at h
        · rename_i x hfx
          exact .inr (evX_ok (hx _ _ hfx) h H hl)
        · exact .inl (evFn_ok hm ht ih h H hl)
def givesS (P : Program) (oo : OpO) (orc : Orc) (spc : CallF) (tab : Tab) (xt : XTab) (N n m k : Nat) (args : List Value) (v : Value) : Bool := match evFn P oo (evCallS P oo orc spc tab xt N n) tab N k args ⟨.leaf, m⟩ with
  | some (u, _) => veq 8 u v
  | none => false
theorem run_relS {P : Program} {oo : OpO} (hm : P.follows .mixedOrders = true) {tab : Tab} (ht : tab.ok P) {xt : XTab} (hx : xt.ok P) {orc : Orc} {spc : CallF} {N n m k : Nat} {w0 : W0} (hw : w0.m ≤ m) (hoo : OpOk P w0 oo) (ho : OrcOk P w0 orc) (hs : CallOk P oo w0 spc) {args args' : List Value} (hl : LR (symφ w0) args args') {v : Value} (hv : plainB 3 v = true) (h : givesS P oo orc spc tab xt N n m k args v = true) :
    Calls P k ⟨args'⟩ w0.w fun e w' => e = .returned v ∧ Below w0.w.heap.size w0.w w' := by
  unfold givesS at h
  split at h
  · rename_i u st' hu
    refine Calls.mono (evFn_ok hm ht (evCallS_ok hm ht hx hoo ho hs N n) hu (HR.start w0 hw) hl).2 ?_
    rintro e w' ⟨v', φ', rfl, h1, h2, h3⟩
    rw [veq_eq h] at h3
    rw [plain_eq 3 v v' hv h3]
    exact ⟨rfl, h1.below⟩
  · cases h

/-- A queue of one number, in a block that was grown: its number is taken; what is left is the empty end. -/
def takeS (k0 : Nat) : CallF := fun k args st => if Nat.beq k k0 then (match args with
  | [.pointer (some a)] => (match aloadCells st a 1 with
    | some [.slice (some b) l _] => (match st.heap.get b.block with
      | some (.cells [.int .i64 n] e true s) => if Nat.beq l 1 && (Nat.beq b.off 0 && Nat.beq s 1) then (match aputCells ⟨(st.heap.put b.block none).put st.next (some (.cells [] e true 1)), st.next + 1⟩ a [.slice (some ⟨st.next, 0, none⟩) 0 0] with
        | some st2 => some (.tuple #[.int .i64 n, .bool true], st2)
        | none => none) else none
      | _ => none)
    | _ => none)
  | _ => none) else none
theorem storeCells_one {P : Program} {w : World} {b o : Nat} {v u : Value} (h1 : v.oneCell' = true) (hc : w.cell? ⟨b, o, none⟩ = some u) (hf : w.frozen? ⟨b, o, none⟩ = false) : Sem.run P (storeCells ⟨b, o, none⟩ [v]) w = .ok () (w.setCell ⟨b, o, none⟩ v) := by
  have hst := run_store P w ⟨b, o, none⟩ v .plain h1
  rw [hc] at hst
  simp only [hf] at hst
  have e0 : (⟨b, o, none⟩ : Addr).add 0 = ⟨b, o, none⟩ := by simp [Addr.add]
  simp [storeCells, e0, hst]
theorem AR.inv_ptr {φ : Pm} {a : Addr} {v : Value} (h : VR φ (.pointer (some a)) v) : ∃ a', v = .pointer (some a') ∧ AR φ a a' := by
  cases h with
  | leaf hl => simp [leafB] at hl
  | ptr h => exact ⟨_, rfl, h⟩
theorem VR.inv_slice {φ : Pm} {a : Addr} {l c : Nat} {v : Value} (h : VR φ (.slice (some a) l c) v) : ∃ a' c', v = .slice (some a') l c' ∧ AR φ a a' ∧ CR φ a l c c' := by
  cases h with
  | leaf hl => simp [leafB] at hl
  | slice h hc => exact ⟨_, _, rfl, h, hc⟩
/-- A taken number's contract. -/
def TakeOk (P : Program) (k0 : Nat) : Prop := (∀ args w, (callFunc k0 args).run P w = .ok (.enter k0 args) w) ∧ ∀ (qb qo B o c : Nat) (n : Int) (w : World), w.cell? ⟨qb, qo, none⟩ = some (.slice (some ⟨B, o, none⟩) 1 c) → w.cell? ⟨B, o, none⟩ = some (.int .i64 n) → w.frozen? ⟨qb, qo, none⟩ = false → 1 ≤ c →
  Calls P k0 #[.pointer (some ⟨qb, qo, none⟩)] w fun e w' => e = .returned (.tuple #[.int .i64 n, .bool true]) ∧ w' = (w.setCell ⟨qb, qo, none⟩ (.slice (some ⟨B, if c = 1 then o else o + 1, none⟩) 0 (c - 1))).drew
theorem takeS_ok {P : Program} {oo : OpO} {w0 : W0} {k0 : Nat} (hoo : OpOk P w0 oo) (ht : TakeOk P k0) : CallOk P oo w0 (takeS k0) := by
  refine ⟨hoo, fun k args st v st' h φ w args' H hl => ?_⟩
  unfold takeS at h
  split at h
  · rename_i hk
    obtain rfl := Nat.eq_of_beq_eq_true hk
    split at h
    · rename_i a
      split at h
      · rename_i b l cc hq
        split at h
        · rename_i n e s hb
          split at h
          · rename_i hg
            simp only [Bool.and_eq_true] at hg
            obtain ⟨g1, g2, g3⟩ := hg
            have g1 := Nat.eq_of_beq_eq_true g1
            have g2 := Nat.eq_of_beq_eq_true g2
            have g3 := Nat.eq_of_beq_eq_true g3
            subst g1 g3
            split at h
            · rename_i st2 hput
              cases h
              obtain ⟨v1, rfl⟩ : ∃ v1, args' = [v1] := by
                rcases args' with _ | ⟨v1, _ | ⟨v2, r⟩⟩
                · exact absurd hl.1 (by simp)
                · exact ⟨v1, rfl⟩
                · exact absurd hl.1 (by simp)
              obtain ⟨a', rfl, ha⟩ := AR.inv_ptr hl.cons_inv.1
              obtain ⟨l', q1, q2, q3⟩ := aload_cells H ha hq
              obtain ⟨v2, rfl⟩ : ∃ v2, l' = [v2] := by
                rcases l' with _ | ⟨v1, _ | ⟨v2, r⟩⟩
                · simp at q1
                · exact ⟨v1, rfl⟩
                · simp at q1
              have hq0 := q3 0 v2 rfl
              rw [Addr.add_zero'] at hq0
              obtain ⟨b', c', rfl, hb1, hb2⟩ := VR.inv_slice q2.cons_inv.1
              obtain ⟨B, o, S, g', s', k1, k2, k3, k4, arr, k5, k6, k7, k8, k9⟩ := H.obj _ _ hb hb1.ne
              subst k3 k4
              have hb1' := hb1
              unfold AR at hb1
              unfold CR at hb2
              simp only [k1] at hb1 hb2
              obtain ⟨-, rfl⟩ := hb1
              simp only [if_true, g2, Nat.add_zero, Nat.mul_one] at hb2 hq0
              obtain ⟨c1, c2⟩ := hb2
              have hfr : φ st.next = .none := H.fresh _ (Nat.le_refl _)
              have hcell : w.cell? ⟨B, o, none⟩ = some (.int .i64 n) := by
                have e1 := k9.2 0 (.int .i64 n) (arr.toList[o]'(by simp at k7; simp; omega)) rfl (by simp)
                have e2 := plain_eq 3 _ _ rfl e1
                rw [Array.getElem_toList] at e2
                simp [World.cell?, k5, Array.getElem?_eq_getElem (show o < arr.size by simp at k7; omega), e2]
              -- the empty end, as a block of its own
              obtain ⟨H1, hle1⟩ := H.move hb rfl k1 hfr (Nat.le_succ _) (Nat.lt_succ_self _) (o2 := if c' = 1 then o else o + 1) (g2 := true) (s2 := 1) (ob := .cells [] e true 1) k5 rfl (fun _ _ => rfl) rfl rfl rfl ⟨rfl, rfl, arr, rfl, k6, by split <;> simp <;> omega, (fun e => by cases e), by exact ⟨by simp, fun i x y hi => by simp at hi⟩⟩
              have hnb : st.next ≠ b.block := by have := H.lt hb; omega
              have ha1 := ha.mono hle1
              have hv1 : VR ((φ.tell b.block .dead).tell st.next (.live B (if c' = 1 then o else o + 1) S true 1)) (.slice (some ⟨st.next, 0, none⟩) 0 0) (.slice (some ⟨B, if c' = 1 then o else o + 1, none⟩) 0 (c' - 1)) := by
                refine .slice ?_ ?_
                · unfold AR; simp [Pm.tell_same]
                · unfold CR
                  simp only [Pm.tell_same, if_true]
                  refine ⟨Nat.zero_le _, ?_⟩
                  split <;> omega
              obtain ⟨w', hst, H2, hk2⟩ := aput_cells (P := P) H1 ha1 (LR.cons hv1 LR.nil) hput
              -- where the queue lies
              have haq : ∃ qb qo, a' = ⟨qb, qo, none⟩ ∧ w.frozen? ⟨qb, qo, none⟩ = false := by
                have hp := hput
                unfold aputCells at hp
                split at hp
                · rename_i cs1 e1 g1 s1 hcs
                  have hcs0 := hcs
                  simp only [Tr.get_put_eq] at hcs
                  obtain ⟨QB, qo, QS, qg, qs, j1, j2, j3, j4, qarr, j5, j6, j7, j8, j9⟩ := H1.obj _ _ hcs0 ha1.ne
                  unfold AR at ha1
                  simp only [j1] at ha1
                  obtain ⟨-, rfl⟩ := ha1
                  exact ⟨_, _, rfl, by simp [World.frozen?, j5]⟩
                · cases hp
              obtain ⟨qb, qo, rfl, hfz⟩ := haq
              have hw : w' = w.setCell ⟨qb, qo, none⟩ (.slice (some ⟨B, if c' = 1 then o else o + 1, none⟩) 0 (c' - 1)) := by
                rw [storeCells_one rfl hq0 hfz] at hst
                exact (Result.ok.inj hst).2.symm
              refine .inl ⟨fun w => ht.1 _ w, Calls.mono (ht.2 qb qo B o c' n w hq0 hcell hfz c1) ?_⟩
              rintro e' w2 ⟨rfl, rfl⟩
              refine ⟨_, (φ.tell b.block .dead).tell st.next (.live B (if c' = 1 then o else o + 1) S true 1), rfl, ?_, ?_, plain_refl 3 _ rfl⟩
              · rw [← hw]; exact H2.same (Same.drew w')
              · refine Kept.trans (b := ⟨(st.heap.put b.block none).put st.next (some (.cells [] e true 1)), st.next + 1⟩) ⟨Nat.le_succ _, hle1, fun d hd hno => ⟨?_, ?_⟩⟩ hk2
                · rw [Pm.tell_other _ _ _ _ (by omega), Pm.tell_other _ _ _ _ (fun e => by subst e; rw [k1] at hno; cases hno)]; exact hno
                · show ((st.heap.put b.block none).put st.next _).get d = _
                  rw [Tr.get_put_eq, if_neg (by omega), Tr.get_put_eq, if_neg (fun e => by subst e; rw [k1] at hno; cases hno)]
            · cases h
          · cases h
        · cases h
      · cases h
    · cases h
  · cases h

/-- The numbers whose bits are set, of words of 64 bits. -/
def bitsOf : Nat → Nat → Nat → List Nat
  | 0, _, _ => []
  | f + 1, i, x => if Nat.beq x 0 then [] else if Nat.beq (x % 2) 1 then i :: bitsOf f (i + 1) (x / 2) else bitsOf f (i + 1) (x / 2)
def allBits : Nat → List Nat → List Nat
  | _, [] => []
  | k, w :: ws => bitsOf 64 (64 * k) w ++ allBits (k + 1) ws
/-- Numbers in order as ranges; the last range first. -/
def addNum : List (Nat × Nat) → Nat → List (Nat × Nat)
  | [], v => [(v, v)]
  | (a, b) :: r, v => if Nat.beq (b + 1) v then (a, v) :: r else (v, v) :: (a, b) :: r
def rangesOf (l : List Nat) : List (Nat × Nat) := (l.foldl addNum []).reverse
def pairCells : List (Nat × Nat) → List Value
  | [] => []
  | (a, b) :: r => .int .i64 a :: .int .i64 b :: pairCells r
def u64s : List Value → Option (List Nat)
  | [] => some []
  | v :: l => match v with
    | .int .u64 (.ofNat n) => if Nat.blt n 18446744073709551616 then (match u64s l with
      | some ns => some (n :: ns)
      | none => none) else none
    | _ => none
/-- A set's ranges. -/
def rangesS (k0 e : Nat) : CallF := fun k args st => if Nat.beq k k0 then (match args with
  | [.pointer (some a)] => (match aloadCells st a 16 with
    | some l => (match u64s l with
      | some ws => if Nat.blt 0 (rangesOf (allBits 0 ws)).length then some (.slice (some ⟨st.next, 0, none⟩) (rangesOf (allBits 0 ws)).length (rangesOf (allBits 0 ws)).length, ⟨st.heap.put st.next (some (.cells (pairCells (rangesOf (allBits 0 ws))) e true 2)), st.next + 1⟩) else none
      | none => none)
    | none => none)
  | _ => none) else none
/-- A block of the call's own that a callee has left. -/
theorem HR.adopt {w0 : W0} {w : World} {φ : Pm} {st : St} (h : HR w0 φ st w) {B : Nat} (hB : ∀ b B' o S g s, φ b = .live B' o S g s → B' ≠ B) (hown : w0.w.heap.size ≤ B) (hlt : B < w.heap.size) {ob : Ob} {S : Nat} {g : Bool} {s : Nat}
    (ho : OR (φ.tell st.next (.live B 0 S g s)) ob w.heap[B]? 0 S g s) :
    HR w0 (φ.tell st.next (.live B 0 S g s)) ⟨st.heap.put st.next (some ob), st.next + 1⟩ w ∧ Kept st φ ⟨st.heap.put st.next (some ob), st.next + 1⟩ (φ.tell st.next (.live B 0 S g s)) := by
  have hb := h.fresh st.next (Nat.le_refl _)
  have hle : Le φ (φ.tell st.next (.live B 0 S g s)) := Le.tell hb
  refine ⟨⟨h.below, ?_, ?_, ?_, ?_, ?_, ?_⟩, Nat.le_succ _, hle, fun c hc hn => ⟨?_, ?_⟩⟩
  · intro c hc
    rw [Pm.tell_other _ _ _ _ (by simp at hc; omega)]
    exact h.fresh c (by simp at hc; omega)
  · intro c hc
    simp only at hc ⊢
    rw [Tr.get_put_eq, if_neg (by omega)]
    exact h.absent c (by omega)
  · intro c x hc hcn
    simp only [Tr.get_put_eq] at hc
    by_cases e : c = st.next
    · subst e
      simp only [if_true] at hc
      cases hc
      exact ⟨B, 0, S, g, s, Pm.tell_same _ _ _, fun _ => hown, ho⟩
    · simp only [e, if_false] at hc
      rw [Pm.tell_other _ _ _ _ e] at hcn
      obtain ⟨B', o, S', g', s', k1, k2, k3⟩ := h.obj c x hc hcn
      exact ⟨B', o, S', g', s', by rw [Pm.tell_other _ _ _ _ e]; exact k1, k2, k3.mono hle⟩
  · intro b1 b2 B' o1 S1 g1 s1 o2 S2 g2 s2 k0 k1 k2
    by_cases e1 : b1 = st.next
    · by_cases e2 : b2 = st.next
      · rw [e1, e2]
      · subst e1
        rw [Pm.tell_same] at k1
        rw [Pm.tell_other _ _ _ _ e2] at k2
        cases k1
        exact absurd rfl (hB _ _ _ _ _ _ k2)
    · rw [Pm.tell_other _ _ _ _ e1] at k1
      by_cases e2 : b2 = st.next
      · subst e2
        rw [Pm.tell_same] at k2
        cases k2
        exact absurd rfl (hB _ _ _ _ _ _ k1)
      · rw [Pm.tell_other _ _ _ _ e2] at k2
        exact h.inj _ _ _ _ _ _ _ _ _ _ _ k0 k1 k2
  · intro c B' o S' g' s' k
    by_cases e : c = st.next
    · subst e; rw [Pm.tell_same] at k; cases k; exact hlt
    · rw [Pm.tell_other _ _ _ _ e] at k
      exact h.used _ _ _ _ _ _ k
  · refine ⟨fun r hr => ?_, fun r v k => ?_⟩
    · have hv := h.sym.1 r hr
      rw [Pm.tell_other _ _ _ _ (fun e => by subst e; rw [hv] at hb; cases hb)]; exact hv
    · by_cases e : r = st.next
      · subst e; rw [Pm.tell_same] at k; cases k
      · rw [Pm.tell_other _ _ _ _ e] at k; exact h.sym.2 r v k
  · rw [Pm.tell_other _ _ _ _ (by omega)]; exact hn
  · show (st.heap.put st.next _).get c = _
    rw [Tr.get_put_eq, if_neg (by omega)]
theorem u64s_eq : ∀ {l : List Value} {ns : List Nat}, u64s l = some ns → l = ns.map (fun n => .int .u64 (n : Int)) ∧ ∀ x ∈ ns, x < 18446744073709551616
  | [], _, h => by cases h; exact ⟨rfl, fun x hx => by cases hx⟩
  | v :: l, ns, h => by
    simp only [u64s] at h
    split at h
    · rename_i n
      split at h
      · rename_i hn
        split at h
        · rename_i ns' hs
          cases h
          obtain ⟨e1, e2⟩ := u64s_eq hs
          refine ⟨by rw [e1]; rfl, fun x hx => ?_⟩
          rcases List.mem_cons.1 hx with rfl | hx
          · simpa [Nat.blt, Nat.lt_iff_add_one_le] using hn
          · exact e2 x hx
        · cases h
      · cases h
    · cases h
theorem pairCells_plain : ∀ (l : List (Nat × Nat)), (pairCells l).all (plainB 3) = true
  | [] => rfl
  | (_, _) :: l => by rw [pairCells, List.all_cons, List.all_cons, pairCells_plain l]; rfl
theorem plain_LR {φ : Pm} {l : List Value} (h : l.all (plainB 3) = true) : LR φ l l := ⟨rfl, fun i x y hx hy => by
  rw [hx] at hy; cases hy
  exact plain_refl 3 _ (List.all_eq_true.1 h _ (List.mem_of_getElem? hx))⟩
/-- What the ranges of sixteen words are, in worlds behind w0. -/
def RangesOk (P : Program) (w0 : World) (k0 e : Nat) : Prop := (∀ args w, (callFunc k0 args).run P w = .ok (.enter k0 args) w) ∧ ∀ (sb so : Nat) (ws : List Nat) (w : World), Below w0.heap.size w0 w → sb < w.heap.size → ws.length = 16 → (∀ x ∈ ws, x < 18446744073709551616) → (∀ j (h : j < ws.length), w.cell? ⟨sb, so + j, none⟩ = some (.int .u64 ws[j])) →
  Calls P k0 #[.pointer (some ⟨sb, so, none⟩)] w fun x w' => ∃ v, x = .returned v ∧ w'.ownsRow w.heap.size e 2 v (rangesOf (allBits 0 ws)).length (pairCells (rangesOf (allBits 0 ws))) ∧ Below w.heap.size w w'
theorem rangesS_ok {P : Program} {oo : OpO} {w0 : W0} {k0 e : Nat} (hoo : OpOk P w0 oo) (hr : RangesOk P w0.w k0 e) : CallOk P oo w0 (rangesS k0 e) := by
  refine ⟨hoo, fun k args st v st' h φ w args' H hl => ?_⟩
  unfold rangesS at h
  split at h
  · rename_i hk
    obtain rfl := Nat.eq_of_beq_eq_true hk
    split at h
    · rename_i a
      split at h
      · rename_i l hq
        split at h
        · rename_i ws hws
          split at h
          · rename_i hpos
            have hpos : 0 < (rangesOf (allBits 0 ws)).length := by simp [Nat.blt] at hpos; omega
            cases h
            obtain ⟨v1, rfl⟩ : ∃ v1, args' = [v1] := by
              rcases args' with _ | ⟨v1, _ | ⟨v2, r⟩⟩
              · exact absurd hl.1 (by simp)
              · exact ⟨v1, rfl⟩
              · exact absurd hl.1 (by simp)
            obtain ⟨a', rfl, ha⟩ := AR.inv_ptr hl.cons_inv.1
            obtain ⟨l', q1, q2, q3⟩ := aload_cells H ha hq
            obtain ⟨rfl, hwide⟩ := u64s_eq hws
            have hsame : l' = ws.map fun n : Nat => .int .u64 (n : Int) := by
              have e1 := plain_list0 (d := 0) (xs := ws.map fun n : Nat => .int .u64 (n : Int)) (by rw [List.all_eq_true]; intro v hv; obtain ⟨n, _, rfl⟩ := List.mem_map.1 hv; rfl) q2
              exact e1
            subst hsame
            have hlen : ws.length = 16 := by simpa using q1
            -- where the words lie
            have hpl : ∃ sb so, a' = ⟨sb, so, none⟩ ∧ sb < w.heap.size := by
              have hq0 := hq
              unfold aloadCells at hq0
              have key : ∀ ob, st.heap.get a.block = some ob → ∃ sb so, a' = ⟨sb, so, none⟩ ∧ sb < w.heap.size := fun ob hob => by
                obtain ⟨QB, qo, QS, qg, qs, j1, j2, j3⟩ := H.obj _ _ hob ha.ne
                have ha2 := ha
                unfold AR at ha2
                simp only [j1] at ha2
                obtain ⟨-, rfl⟩ := ha2
                exact ⟨_, _, rfl, H.used _ _ _ _ _ _ j1⟩
              split at hq0
              · rename_i hcs; exact key _ hcs
              · rename_i hcs; exact key _ hcs
              · cases hq0
            obtain ⟨sb, so, rfl, hsb⟩ := hpl
            have hcell : ∀ j (h : j < ws.length), w.cell? ⟨sb, so + j, none⟩ = some (.int .u64 ws[j]) := fun j hj => by
              have := q3 j (.int .u64 ws[j]) (by simp [hj])
              rwa [Addr.add_lit] at this
            refine .inl ⟨fun w => hr.1 _ w, Calls.mono (hr.2 sb so ws w H.below hsb hlen ?_ hcell) ?_⟩
            · exact hwide
            · rintro x w' ⟨v, rfl, ⟨hz, hrow⟩, hb⟩
              rcases hrow with ⟨_, h0⟩ | ⟨g, cap, cur, rfl, hbg, hg, hc1, hc2, hc3, hc4⟩
              · omega
              have hgl : g < w'.heap.size := (Array.getElem?_eq_some_iff.1 hg).1
              have hsz := H.below.size
              obtain ⟨H2, K2⟩ := (H.past hb).adopt (B := g) (fun b B' o S g1 s k e => by have := H.used _ _ _ _ _ _ k; omega) (by omega) hgl (ob := .cells (pairCells (rangesOf (allBits 0 ws))) e true 2) (S := cap * 2) (g := true) (s := 2)
                ⟨rfl, rfl, cur, hg, hc3, by rw [hz]; simp; omega, (fun e => by cases e), by rw [hz, List.drop_zero, hc4]; exact plain_LR (pairCells_plain _)⟩
              refine ⟨_, _, rfl, H2, K2, .slice ?_ ?_⟩
              · unfold AR; simp [Pm.tell_same]
              · unfold CR
                simp only [Pm.tell_same, if_true]
                exact ⟨hc1, by omega⟩
          · cases h
        · cases h
      · cases h
    · cases h
  · cases h
def orS (a b : CallF) : CallF := fun k args st => match a k args st with
  | some r => some r
  | none => b k args st
theorem orS_ok {P : Program} {oo : OpO} {w0 : W0} {a b : CallF} (ha : CallOk P oo w0 a) (hb : CallOk P oo w0 b) : CallOk P oo w0 (orS a b) := by
  refine ⟨ha.1, fun k args st v st' h φ w args' H hl => ?_⟩
  unfold orS at h
  split at h
  · rename_i r hr
    cases h
    exact ha.2 _ _ _ _ _ hr φ w args' H hl
  · exact hb.2 _ _ _ _ _ h φ w args' H hl
end Go.Ev

