/-
  One operation, told plainly: every kind that closed code needs.
-/
/-
  Ranges over maps whose order is no choice: at each step at most one entry is left.
-/
import Derived.Test.YtjhlodbhchdkbaaGreatDoorEvM3
import Derived.Lib.Builder
import Derived.Lib.UnsafeStr
import Derived.Laws.IdiomStrings
import Derived.Test.YtjhlodbhchdkbaaGreatDoorEvM2
namespace Go.Ev
open Go Go.RowKit Go.Lib

def evL (E : Operand → Option Value) : List Operand → Option (List Value)
  | [] => some []
  | x :: xs => match E x, evL E xs with
    | some v, some vs => some (v :: vs)
    | _, _ => none
def evP (E : Operand → Option Value) : List (Nat × Operand) → Option (List (Nat × Value))
  | [] => some []
  | (i, x) :: xs => match E x, evP E xs with
    | some v, some vs => some ((i, v) :: vs)
    | _, _ => none
theorem evL_ok {φ : Pm} {E : Operand → Option Value} {ρ : Operand → Value} : ∀ {xs : List Operand} {vs : List Value}, (∀ x ∈ xs, ∀ v, E x = some v → VR φ v (ρ x)) → evL E xs = some vs → LR φ vs (xs.map ρ)
  | [], vs, _, h => by cases h; exact LR.nil
  | x :: xs, vs, hx, h => by
    simp only [evL] at h
    split at h
    · rename_i v ws hv hw
      cases h
      exact LR.cons (hx x (by simp) v hv) (evL_ok (fun y hy => hx y (by simp [hy])) hw)
    · cases h
theorem evP_ok {φ : Pm} {E : Operand → Option Value} {ρ : Operand → Value} : ∀ {xs : List (Nat × Operand)} {vs : List (Nat × Value)}, (∀ x ∈ xs.map (·.2), ∀ v, E x = some v → VR φ v (ρ x)) → evP E xs = some vs →
    PR φ vs (xs.map fun p => (p.1, ρ p.2))
  | [], vs, _, h => by cases h; exact ⟨rfl, fun i p p' a => by simp at a⟩
  | (i, x) :: xs, vs, hx, h => by
    simp only [evP] at h
    split at h
    · rename_i v ws hv hw
      cases h
      have ih := evP_ok (fun y hy => hx y (by simp only [List.map_cons, List.mem_cons]; exact .inr hy)) hw
      refine ⟨by simpa using ih.1, fun j p p' a b => ?_⟩
      cases j with
      | zero => simp at a b; subst a; subst b; exact ⟨rfl, hx x (by simp) v hv⟩
      | succ j => exact ih.2 j p p' (by simpa using a) (by simpa using b)
    · cases h

/-! ### type assertions -/
def aassert (P : Program) (x : Value) (asserted : TypeId) (ok : Bool) : Option Value :=
  match P.underlying asserted, x with
  | some (.interface want), .iface t _ => match P.info? t with
    | some i => match Instr.missingMethod want i.methods with
      | none => some (if ok then .tuple ⟨[x, .bool true]⟩ else x)
      | some _ => if ok then match zeroB P asserted with
        | some z => some (.tuple ⟨[z, .bool false]⟩)
        | none => none
        else none
    | none => none
  | some _, .nilIface => if ok then match zeroB P asserted with
    | some z => some (.tuple ⟨[z, .bool false]⟩)
    | none => none
    else none
  | some _, .iface t v => if t = asserted then some (if ok then .tuple ⟨[v, .bool true]⟩ else v)
    else if ok then match zeroB P asserted with
      | some z => some (.tuple ⟨[z, .bool false]⟩)
      | none => none
    else none
  | _, _ => none
theorem VR.yes {φ : Pm} {v v' : Value} (h : VR φ v v') : VR φ (.tuple ⟨[v, .bool true]⟩) (.tuple #[v', .bool true]) := VR.pair h (.leaf rfl)
theorem ok_assert {P : Program} {w0 : W0} {w : World} {φ : Pm} {st : St} {x x' : Value} {xt t : TypeId} {ok : Bool} (hx : VR φ x x') {v : Value} (h : aassert P x t ok = some v) :
    Out.ok P w0 φ st w (do pure (.value (← Instr.typeAssert x' xt t ok))) (.val v) := by
  have zero : ∀ z, zeroB P t = some z → (zeroValue t).run P w = .ok z w ∧ VR φ (.tuple ⟨[z, .bool false]⟩) (.tuple #[z, .bool false]) := fun z hz => by
    obtain ⟨h1, h2⟩ := run_zero hz w
    exact ⟨h1, VR.pair (plain_refl 3 z h2) (.leaf rfl)⟩
  unfold aassert at h
  split at h
  · rename_i want u v' hu
    cases hx with
    | leaf hl => simp [leafB] at hl
    | iface hv =>
      split at h
      · rename_i i hi
        split at h
        · rename_i hm
          cases h
          cases ok
          · exact val_of (by simp [Instr.typeAssert, run_underlying hu, typeInfo, hi, hm]) (.iface hv)
          · exact val_of (by simp [Instr.typeAssert, run_underlying hu, typeInfo, hi, hm]) (VR.yes (.iface hv))
        · rename_i m hm
          split at h
          · rename_i hok
            subst hok
            split at h
            · rename_i z hz
              cases h
              obtain ⟨z1, z2⟩ := zero z hz
              exact val_of (by simp [Instr.typeAssert, run_underlying hu, typeInfo, hi, hm, z1]) z2
            · cases h
          · cases h
      · cases h
  · rename_i d hu
    split at h
    · rename_i hok
      subst hok
      split at h
      · rename_i z hz
        cases h
        obtain ⟨z1, z2⟩ := zero z hz
        cases hx with
        | leaf => exact val_of (by cases d <;> simp [Instr.typeAssert, run_underlying hu, z1]) z2
      · cases h
    · cases h
  · rename_i d u v' hd hu
    cases hx with
    | leaf hl => simp [leafB] at hl
    | iface hv =>
      split at h
      · rename_i e
        subst e
        cases h
        cases ok
        · refine val_of ?_ hv
          cases d <;> first | exact (hd _ rfl).elim | (simp [Instr.typeAssert, run_underlying hu]; done)
        · refine val_of ?_ (VR.yes hv)
          cases d <;> first | exact (hd _ rfl).elim | (simp [Instr.typeAssert, run_underlying hu]; done)
      · rename_i e
        split at h
        · rename_i hok
          subst hok
          split at h
          · rename_i z hz
            cases h
            obtain ⟨z1, z2⟩ := zero z hz
            refine val_of ?_ z2
            cases d <;> first | exact (hd _ rfl).elim | (simp [Instr.typeAssert, run_underlying hu, e, z1]; done)
          · cases h
        · cases h
  · cases h
/-! ### pointers that lose their type, and get it back -/
def aconv (P : Program) (st : St) (src dst : TypeId) (x : Value) : Option Value := match P.underlying src, P.underlying dst, x with
  | some (.pointer t), some .unsafePointer, .pointer (some a) => match P.info? t, st.heap.get a.block with
    | some j, some (.cells cs _ false _) => if j.size = 0 then none else if Nat.blt a.off cs.length then some x else none
    | _, _ => none
  | some .unsafePointer, some (.pointer u), .pointer (some a) => match P.info? u, st.heap.get a.block with
    | some _, some (.cells cs e false _) => if liesAt P P.depth e (cs.length / P.cellsOf e) a.off u 1 then some x else none
    | _, _ => none
  | _, _, _ => none
theorem ok_conv {P : Program} {w0 : W0} {w : World} {φ : Pm} {st : St} (H : HR w0 φ st w) {src dst : TypeId} {x x' : Value} (hx : VR φ x x') {v : Value} (h : aconv P st src dst x = some v) :
    Out.ok P w0 φ st w (do pure (.value (← convert src dst x'))) (.val v) := by
  have shape : ∀ {a a' : Addr} {cs : List Value} {e : TypeId} {s : Nat}, AR φ a a' → st.heap.get a.block = some (.cells cs e false s) → a'.off = a.off ∧ w.shape? a'.block = some (e, cs.length) := by
    intro a a' cs e s ha hb
    obtain ⟨B, o, S, g, s', k1, k2, k3, k4, arr, k5, k6, k7, k8, k9⟩ := H.obj _ _ hb ha.ne
    unfold AR at ha
    simp only [k1] at ha
    obtain ⟨_, rfl⟩ := ha
    obtain ⟨o0, hS⟩ := k8 k3
    refine ⟨by simp [o0], ?_⟩
    simp [World.shape?, k5, k6, hS]
  unfold aconv at h
  split at h
  · rename_i t a h1 h2
    split at h
    · rename_i j cs e s h3 h4
      split at h
      · cases h
      · rename_i hj
        split at h
        · rename_i hlt
          cases h
          cases hx with
          | leaf hl => simp [leafB] at hl
          | @ptr _ a' ha =>
            obtain ⟨s1, s2⟩ := shape ha h4
            refine val_of (run_to_unsafe w a' h1 h2 h3 hj s2 ?_) (.ptr ha)
            rw [s1]
            exact Nat.le_of_ble_eq_true hlt
        · cases h
    · cases h
  · rename_i u a h1 h2
    split at h
    · rename_i j cs e s h3 h4
      split at h
      · rename_i hl
        cases h
        cases hx with
        | leaf hl => simp [leafB] at hl
        | @ptr _ a' ha =>
          obtain ⟨s1, s2⟩ := shape ha h4
          refine val_of (run_from_unsafe w a' h1 h2 h3 s2 ?_) (.ptr ha)
          rw [s1]
          exact hl
      · cases h
    · cases h
  · cases h

/-! ### a text's bytes, and a text of bytes -/
def abytes (P : Program) (src dst : TypeId) (x : Value) : Option Out := match P.underlying src, P.underlying dst, x with
  | some .string, some (.slice e), .string s => match P.underlying e with
    | some (.int .u8) => if isMark s then none else some (.new (.bytes (byteCells s) e) fun b => .slice (some ⟨b, 0, none⟩) s.data.toList.length s.data.toList.length)
    | _ => none
  | _, _, _ => none
theorem ok_bytes {P : Program} {w0 : W0} {w : World} {φ : Pm} {st : St} {src dst : TypeId} {x x' : Value} (hx : VR φ x x') {u : Out} (h : abytes P src dst x = some u) :
    Out.ok P w0 φ st w (do pure (.value (← convert src dst x'))) u := by
  unfold abytes at h
  split at h
  · rename_i e s h1 h2
    split at h
    · rename_i h3
      split at h
      · cases h
      rename_i hnm
      cases h
      cases hx with
      | opq hm => exact absurd hm hnm
      | leaf =>
        have hr := run_bytes_of_string w src dst e s h1 h2 h3
        have hge := grownCap_ge w s.size 0 e
        have hl : s.data.toList.length = s.size := by simp
        have hsz : (bytesRow s (grownCap w s.size 0 e)).size = grownCap w s.size 0 e := by
          have e1 : s.data.size = s.size := rfl
          simp only [bytesRow, Array.size_append, Array.size_map, Array.size_replicate, e1]
          omega
        have hrun := congrArg (fun r => r.andThen fun (a : Value) w' => (pure (Next.value a) : Sem Next).run P w') hr
        rw [← Sem.run_bind] at hrun
        refine ⟨_, _, _, grownCap w s.size 0 e, true, 1, hrun, rfl, rfl, rfl, rfl, ?_⟩
        intro φ' b hle hb
        refine ⟨⟨_, _, _, rfl, hsz, by rw [byteCells_length]; omega, ?_⟩, .slice (by unfold AR; simp [hb]) ?_⟩
        · rw [List.drop_zero, bytesRow, Array.toList_append]
          have : ((s.data.map fun b => Value.int .u8 b.toNat).toList ++ (Array.replicate (grownCap w s.size 0 e - s.size) (Value.int .u8 0)).toList).take (byteCells s).length = byteCells s := by
            rw [show (s.data.map fun b => Value.int .u8 b.toNat).toList = byteCells s by simp [byteCells]]
            exact List.take_left
          rw [this]
          exact bytes_rel _
        · unfold CR
          simp only [hb, if_true, hl]
          exact ⟨hge, by omega⟩
    · cases h
  · cases h

def asliceData (st : St) (x : Value) : Option Value := match x with
  | .slice none _ _ => some (.pointer none)
  | .slice (some a) l c => match st.heap.get a.block with
    | some (.cells ..) => if Nat.blt 0 l && Nat.blt 0 c then some (.pointer (some a)) else none
    | _ => none
  | _ => none
theorem run_sliceData {P : Program} {w0 : W0} {w : World} {φ : Pm} {st : St} (H : HR w0 φ st w) {ts : Array TypeId} {ty : TypeId} {x x' : Value} (hx : VR φ x x') {v : Value} (h : asliceData st x = some v) :
    ∃ v', (Builtin.unsafeSliceData_ ts ty #[x']).run P w = .ok v' w ∧ VR φ v v' := by
  unfold asliceData at h
  split at h
  · cases h
    cases hx with
    | leaf => exact ⟨_, run_unsafeSliceData_nil w ts ty _ _, .leaf rfl⟩
  · rename_i a l c
    split at h
    · rename_i cs e g s hb
      split at h
      · rename_i hlc
        simp only [Bool.and_eq_true] at hlc
        have h1 : 0 < l := Nat.le_of_ble_eq_true hlc.1
        have h2 : 0 < c := Nat.le_of_ble_eq_true hlc.2
        cases h
        cases hx with
        | leaf hl => simp [leafB] at hl
        | @slice _ a' _ _ c' ha hc =>
          obtain ⟨B, o, S, g', s', k1, k2⟩ := H.obj _ _ hb ha.ne
          unfold CR at hc
          simp only [k1] at hc
          have hc' : c' ≠ 0 := by
            split at hc
            · omega
            · omega
          exact ⟨_, run_unsafeSliceData_row w ts ty a' l c' hc', .ptr ha⟩
      · cases h
    · cases h
  · cases h

theorem HR.kill2 {w0 : W0} {w w' : World} {φ : Pm} {st : St} (h : HR w0 φ st w) {b : Nat} {x : Ob} (hb : st.heap.get b = some x) (hx : roB x = false) {B o S : Nat} {g : Bool} {s : Nat} (hp : φ b = .live B o S g s)
    (hz : w'.heap.size = w.heap.size) (ho : ∀ k, k ≠ B → w'.heap[k]? = w.heap[k]?) (h1 : w'.os = w.os) (h2 : w'.tape = w.tape) (h3 : w'.output = w.output) :
    HR w0 (φ.tell b .dead) ⟨st.heap.put b none, st.next⟩ w' := by
  obtain ⟨B', o', S', g', s', k1, k2, _⟩ := h.obj b x hb (by rw [hp]; simp)
  have eB : B' = B := by rw [hp] at k1; cases k1; rfl
  rw [eB] at k2
  have k2 := k2 hx
  have hk := h.kill hp
  refine ⟨h.below.trans ⟨h1, h2, h3, by omega, fun k hk => ho k (by omega)⟩, hk.fresh, hk.absent, fun c y hc hcn => ?_, hk.inj, fun c B o S g s hc => (by rw [hz]; exact hk.used c B o S g s hc), hk.sym⟩
  obtain ⟨B2, o2, S2, g2, s2, q1, q2, q3⟩ := hk.obj c y hc hcn
  have hne : B2 ≠ B := fun e => by
    subst e
    by_cases e2 : c = b
    · subst e2; rw [Pm.tell_same] at q1; cases q1
    · rw [Pm.tell_other _ _ _ _ e2] at q1
      exact e2 (h.inj _ _ _ _ _ _ _ _ _ _ _ (by assumption) q1 hp)
  exact ⟨B2, o2, S2, g2, s2, q1, q2, by rw [ho B2 hne]; exact q3⟩

theorem liesAt_bytes_off {P : Program} {e : TypeId} (hc : P.cellsOf e = 1) (count off n : Nat) (hn : off + n ≤ count) : liesAt P P.depth e count off e n = true := by
  have hd : P.depth = (2 * (P.types.size + Made.depth) + 1) + 1 := rfl
  rw [hd]
  simp only [liesAt, Bool.or_eq_true]
  left
  rw [hd]
  simp [rowAt, hc, hn, sameLayout, Nat.mod_one]
theorem run_unsafeString_at {P : Program} (w : World) (pt it ty e : TypeId) (hp : P.underlying pt = some (.pointer e)) (hc : P.cellsOf e = 1) (g off cells : Nat) (hsh : w.shape? g = some (e, cells)) (l : List UInt8) (h0 : l ≠ []) (hn : off + l.length ≤ cells) (h63 : l.length ≤ 9223372036854775807)
    (hcell : ∀ j x, l[j]? = some x → w.cell? ((⟨g, off, none⟩ : Addr).add j) = some (.int .u8 x.toNat)) :
    (Builtin.unsafeString_ #[pt, it] ty #[.pointer (some ⟨g, off, none⟩), .int .i64 l.length]).run P w = .ok (.string ⟨l.toArray⟩) (w.freeze ⟨g, off, none⟩ l.length) := by
  have hl : l.length ≠ 0 := by simpa using h0
  have hlb := run_loadBytes (P := P) w l ⟨g, off, none⟩ .empty hcell
  have hlies := liesAt_bytes_off (P := P) hc (cells / P.cellsOf e) off l.length (by rw [hc]; simpa using hn)
  have h63' : ¬ (9223372036854775807 : Int) < (l.length : Int) := by omega
  have hmax : IntKind.i64.max = 9223372036854775807 := rfl
  have hneg : ¬ (l.length : Int) < 0 := by omega
  show Sem.run P (asInt (.int .i64 l.length) >>= _) w = _
  simp [asInt, asIntOf, hmax, h63', hneg, hl, variablesAt, hsh, elemOf, run_underlying hp, hlies, hlb]

/-- Cells that are bytes. -/
def bytesOfCells : List Value → Option (List UInt8)
  | [] => some []
  | .int .u8 n :: vs => match bytesOfCells vs with
    | some l => if decide (n = ((UInt8.ofNat n.toNat).toNat : Int)) then some (UInt8.ofNat n.toNat :: l) else none
    | none => none
  | _ => none
theorem bytesOfCells_ok : ∀ {vs : List Value} {l : List UInt8}, bytesOfCells vs = some l → vs = l.map fun b => Value.int .u8 b.toNat
  | [], l, h => by cases h; rfl
  | v :: vs, l, h => by
    unfold bytesOfCells at h
    split at h
    · rename_i e; cases e
    · rename_i n vs' e
      cases e
      split at h
      · rename_i l' hl
        split at h
        · rename_i hd
          cases h
          have hd := of_decide_eq_true hd
          rw [List.map_cons, ← bytesOfCells_ok hl, ← hd]
        · cases h
      · cases h
    · cases h
/-- A text of bytes: they are not looked at again. -/
def aunsafeStr (P : Program) (st : St) (pt : TypeId) (x n : Value) : Option Out := match x, n with
  | .pointer p, .int .i64 k => if k = 0 then some (.val (.string .empty)) else match p with
    | none => none
    | some a => match P.underlying pt, st.heap.get a.block with
      | some (.pointer e), some (.cells _ e' _ _) => if e = e' then if Nat.beq (P.cellsOf e) 1 then (match k with
        | .ofNat m => (match aloadCells st a m with
          | some vs => (match bytesOfCells vs with
            | some l => if isMark ⟨⟨l⟩⟩ then none else if Nat.ble m 1099511627776 then some (.eff (.string ⟨⟨l⟩⟩) ⟨st.heap.put a.block none, st.next⟩) else none
            | none => none)
          | none => none)
        | _ => none) else none else none
      | _, _ => none
  | _, _ => none
theorem freeze_other (w : World) (B off n k : Nat) (h : k ≠ B) : (w.freeze ⟨B, off, none⟩ n).heap[k]? = w.heap[k]? := by
  unfold World.freeze
  split
  · rfl
  · simp only [Array.getElem?_modify]
    rw [if_neg (Ne.symm h)]
theorem freeze_size (w : World) (a : Addr) (n : Nat) : (w.freeze a n).heap.size = w.heap.size := by
  unfold World.freeze
  split
  · rfl
  · simp
theorem ok_unsafeStr {P : Program} {w0 : W0} {w : World} {φ : Pm} {st : St} (H : HR w0 φ st w) {pt it ty : TypeId} {x x' n n' : Value} (hx : VR φ x x') (hn : VR φ n n') {u : Out} (h : aunsafeStr P st pt x n = some u) :
    Out.ok P w0 φ st w (do pure (.value (← Builtin.unsafeString_ #[pt, it] ty #[x', n']))) u := by
  unfold aunsafeStr at h
  split at h
  · rename_i p k
    have hx2 : ∃ p', x' = .pointer p' := by
      cases hx with
      | leaf => exact ⟨_, rfl⟩
      | ptr => exact ⟨_, rfl⟩
    cases hn with
    | leaf hlf =>
    split at h
    · rename_i h0
      cases h
      subst h0
      obtain ⟨p', rfl⟩ := hx2
      exact val_of (run_unsafeString_none w pt it ty p') (.leaf rfl)
    · rename_i h0
      split at h
      · cases h
      · rename_i a
        split at h
        · rename_i e cs e' g s h1 h2
          split at h
          · rename_i he
            subst he
            split at h
            · rename_i hc1
              have hc1 := Nat.eq_of_beq_eq_true hc1
              split at h
              · rename_i m
                split at h
                · rename_i vs hvs
                  split at h
                  · rename_i l hl
                    split at h
                    · cases h
                    rename_i hnm
                    split at h
                    · rename_i hm63
                      have hm63 := Nat.le_of_ble_eq_true hm63
                      cases h
                      cases hx with
                      | leaf hl => simp [leafB] at hl
                      | @ptr _ a' ha =>
                        obtain ⟨vs', q1, q2, q3⟩ := aload_cells H ha hvs
                        have hvsl := bytesOfCells_ok hl
                        have hvv : vs' = l.map fun b => Value.int .u8 b.toNat := by
                          rw [← hvsl]
                          refine plain_list0 (d := 0) ?_ q2
                          rw [hvsl]
                          simp [plainB, leafB]
                        have hlm : l.length = m := by rw [← q1, hvv]; simp
                        obtain ⟨B, o, S, g', s', k1, k2, k3, k4, arr, k5, k6, k7, k8, k9⟩ := H.obj _ _ h2 ha.ne
                        unfold AR at ha
                        simp only [k1] at ha
                        obtain ⟨_, rfl⟩ := ha
                        have hlen : a.off + m ≤ cs.length := by
                          unfold aloadCells at hvs
                          rw [h2] at hvs
                          simp only at hvs
                          split at hvs
                          · rename_i hle; exact Nat.le_of_ble_eq_true hle
                          · cases hvs
                        have hr := run_unsafeString_at (P := P) w pt it ty e h1 hc1 B (o + a.off) S (by simp [World.shape?, k5, k6]) l (fun e2 => h0 (by rw [e2] at hlm; simp at hlm; rw [← hlm]; rfl)) (by omega) (by omega)
                          (fun j y hy => q3 j _ (by rw [hvv, List.getElem?_map, hy]; rfl))
                        rw [hlm] at hr
                        refine ⟨_, _, H.kill2 h2 rfl k1 (freeze_size w ⟨B, o + a.off, none⟩ m) (fun k hk => freeze_other w B (o + a.off) m k hk) ?_ ?_ ?_, ⟨Nat.le_refl _, Le.dead k1, fun d hd hno => ?_⟩, .inl ⟨.string ⟨⟨l⟩⟩, by rw [Sem.run_bind]; erw [hr]; rfl, .leaf (by simp [leafB, hnm])⟩⟩
                        · unfold World.freeze; split <;> rfl
                        · unfold World.freeze; split <;> rfl
                        · unfold World.freeze; split <;> rfl
                        · have hne : d ≠ a.block := fun e => by subst e; rw [k1] at hno; cases hno
                          exact ⟨by rw [Pm.tell_other _ _ _ _ hne]; exact hno, by rw [Tr.get_put_eq, if_neg hne]⟩
                    · cases h
                  · cases h
                · cases h
              · cases h
            · cases h
          · cases h
        · cases h
  · cases h

/-! ### the room of a slice -/
def acap (P : Program) (st : St) (t : TypeId) (v : Value) : Option Value := match P.underlying t, v with
  | some (.array n _), _ => some (goInt n)
  | some (.slice _), .slice none _ c => some (goInt c)
  | some (.slice _), .slice (some a) _ c => match st.heap.get a.block with
    | some (.cells _ _ false _) => some (goInt c)
    | _ => none
  | _, _ => none
theorem run_acap {P : Program} {w0 : W0} {w : World} {φ : Pm} {st : St} (H : HR w0 φ st w) {t ty : TypeId} {v v' u : Value} (hv : VR φ v v') (h : acap P st t v = some u) :
    (Builtin.cap_ #[t] ty #[v']).run P w = .ok u w ∧ leafB u = true := by
  unfold acap at h
  split at h
  · rename_i n e hu
    cases h
    exact ⟨by simp [Builtin.cap_, run_underlying hu], rfl⟩
  · rename_i e l c hu
    cases h
    cases hv with
    | leaf => exact ⟨by simp [Builtin.cap_, run_underlying hu], rfl⟩
  · rename_i e a l c hu
    split at h
    · rename_i cs el s hb
      cases h
      cases hv with
      | leaf hl => simp [leafB] at hl
      | @slice _ a' _ _ c' ha hc =>
        obtain ⟨B, o, S, g', s', k1, k2, k3, _⟩ := H.obj _ _ hb ha.ne
        unfold CR at hc
        simp only [k1, k3, Bool.false_eq_true, if_false] at hc
        subst hc
        exact ⟨by simp [Builtin.cap_, run_underlying hu], rfl⟩
    · cases h
  · cases h
end Go.Ev

namespace Go.Ev
open Go Go.RowKit

def b1 (x : Option Value) (k : Value → Option Out) : Option Out := match x with | some v => k v | none => none
theorem b1_some {x : Option Value} {k : Value → Option Out} {u : Out} (h : b1 x k = some u) : ∃ v, x = some v ∧ k v = some u := by
  cases x with
  | none => cases h
  | some v => exact ⟨v, rfl, h⟩
def tv (x : Option Value) : Option Out := match x with | some v => some (.val v) | none => none
theorem tv_some {x : Option Value} {u : Out} (h : tv x = some u) : ∃ v, x = some v ∧ u = .val v := by
  cases x with
  | none => cases h
  | some v => cases h; exact ⟨v, rfl, rfl⟩
def te (x : Option St) : Option Out := match x with | some s => some (.eff undef s) | none => none
theorem te_some {x : Option St} {u : Out} (h : te x = some u) : ∃ v, x = some v ∧ u = .eff undef v := by
  cases x with
  | none => cases h
  | some v => cases h; exact ⟨v, rfl, rfl⟩
def orV (x : Option Value) (y : Option Value) : Option Value := match x with | some v => some v | none => y
theorem orV_some {x y : Option Value} {v : Value} (h : orV x y = some v) : x = some v ∨ y = some v := by
  cases x with
  | none => exact .inr h
  | some u => exact .inl h

def isNilB : Value → Bool | .pointer none | .nilIface | .nilFunc => true | _ => false
def sureB : Value → Bool | .func (.method _) _ _ => false | .chan _ => false | v => !isNilB v

/-- One operation, told plainly. -/
def exec0 (P : Program) (E : Operand → Option Value) (st : St) (o : Oper) : Option Out :=
  match o.op with
  | .move x | .assign x => tv (E x)
  | .pick c a b => match E c with
    | some (.bool true) => tv (E a)
    | some (.bool false) => tv (E b)
    | _ => none
  | .alloc e => match zeroB P e with
    | some z => some (.new (.cells z.cells.toList e false 0) fun b => .pointer (some ⟨b, 0, none⟩))
    | none => none
  | .box e x => b1 (E x) fun v => some (.new (.cells v.cells.toList e false 0) fun b => .pointer (some ⟨b, 0, none⟩))
  | .build t ps => match evP E ps.toList with
    | some l => tv (abuild P t l)
    | none => none
  | .buildSlice t n ps => match evP E ps.toList with
    | some l => abuildSlice P t n l
    | none => none
  | .load t a => b1 (E a) fun v => tv (aload P st t v)
  | .store t a x => b1 (E a) fun v => b1 (E x) fun u => te (astore P st t v u)
  | .nilCheck x => b1 (E x) fun v => if sureB v then some (.val v) else none
  | .binOp op t x y _ => b1 (E x) fun v => b1 (E y) fun u => tv (orV (orV (abin op v u) (acmp P st op t v u)) (aplain P E o))
  | .makeInterface t x => b1 (E x) fun v => tv (aiface P t v)
  | .makeFunc fn first captured => match evL E first.toList, evL E captured.toList with
    | some xs, some ys => some (.val (.func fn ⟨xs⟩ ⟨ys⟩))
    | _, _ => none
  | .makeMap _ none => some (.new (.map [] 0) fun b => .map (some b))
  | .makeSlice t l c => b1 (E l) fun v => b1 (E c) fun u => amakeSlice P t v u
  | .slice t x lo hi none => b1 (E x) fun v => match optE E lo, optE E hi with
    | some l, some h => tv (aslice P st t v l h)
    | _, _ => none
  | .fieldAddr t x i => b1 (E x) fun v => tv (afieldAddr P t v i)
  | .field t x i => b1 (E x) fun v => tv (afield P t v i)
  | .indexAddr t x i => b1 (E x) fun v => b1 (E i) fun u => tv (aindexAddr P t v u)
  | .index t x i => b1 (E x) fun v => b1 (E i) fun u => tv (aindex P t v u)
  | .lookup t m k ok => b1 (E m) fun v => b1 (E k) fun u => tv (alookup P st t v u ok)
  | .mapUpdate t m k x | .insert t m k x => b1 (E m) fun v => b1 (E k) fun u => b1 (E x) fun z => te (aupdate P st t v u z)
  | .range t x => b1 (E x) fun v => arange P t v
  | .next x true => b1 (E x) fun v => match anext st v with
    | some (u, st') => some (.eff u st')
    | none => none
  | .typeAssert x _ t ok => b1 (E x) fun v => tv (aassert P v t ok)
  | .extract x i => b1 (E x) fun v => tv (aextract v i)
  | .call c => match c.callee, c.argTypes.toList, c.args.toList with
    | .builtin .len, [t], [x] => b1 (E x) fun v => tv (alen st P t v)
    | .builtin .cap, [t], [x] => b1 (E x) fun v => tv (acap P st t v)
    | .builtin .append, [t, u], [x, y] => b1 (E x) fun v => b1 (E y) fun z => aappend P st t u v z
    | .builtin .copy, [t, _], [x, y] => b1 (E x) fun v => b1 (E y) fun z => acopy P st t v z
    | .builtin .delete, [t, _], [x, y] => b1 (E x) fun v => b1 (E y) fun z => te (adelete P st t v z)
    | .builtin .unsafeSliceData, [_], [x] => b1 (E x) fun v => tv (asliceData st v)
    | .builtin .unsafeString, [t, _], [x, y] => b1 (E x) fun v => b1 (E y) fun z => aunsafeStr P st t v z
    | .builtin .max, _, _ | .builtin .min, _, _ => tv (aplain P E o)
    | _, _, _ => none
  | .convert a b x => b1 (E x) fun v => match abytes P a b v with
    | some u => some u
    | none => tv (orV (aplain P E o) (aconv P st a b v))
  | .unOp .. => tv (aplain P E o)
  | _ => none

theorem exec0_ok {P : Program} {w0 : W0} {w : World} {φ : Pm} {st : St} (H : HR w0 φ st w) {E : Operand → Option Value} {ρ : Operand → Value} {o : Oper} (hE : ER' φ E ρ o) {u : Out} (h : exec0 P E st o = some u) :
    Out.ok P w0 φ st w (execOp ρ o) u := by
  have hE0 := hE
  obtain ⟨dst, op, type, pos, after, guard⟩ := o
  unfold ER' at hE
  cases op <;> simp only [Op.operands] at hE <;> simp only [exec0] at h <;> simp only [execOp]
  case move x =>
    obtain ⟨v, hv, rfl⟩ := tv_some h
    exact ⟨_, w, rfl, Same.refl w, hE x (by simp) v hv⟩
  case assign x =>
    obtain ⟨v, hv, rfl⟩ := tv_some h
    exact ⟨_, w, rfl, Same.refl w, hE x (by simp) v hv⟩
  case pick c a b =>
    split at h
    · rename_i hc
      have hb := hE c (by simp) _ hc
      obtain ⟨v, hv, rfl⟩ := tv_some h
      generalize ρ c = x at hb
      cases hb
      exact ⟨_, w, by simp [asBool], Same.refl w, hE a (by simp) v hv⟩
    · rename_i hc
      have hb := hE c (by simp) _ hc
      obtain ⟨v, hv, rfl⟩ := tv_some h
      generalize ρ c = x at hb
      cases hb
      exact ⟨_, w, by simp [asBool], Same.refl w, hE b (by simp) v hv⟩
    · cases h
  case alloc e =>
    split at h
    · rename_i z hz; cases h; exact ok_alloc hz
    · cases h
  case box e x =>
    obtain ⟨v, hv, h⟩ := b1_some h
    cases h
    exact ok_box (hE x (by simp) v hv)
  case build t ps =>
    split at h
    · rename_i l hl
      obtain ⟨v, hv, rfl⟩ := tv_some h
      refine ok_build (ps := l) ?_ hv
      have := evP_ok (φ := φ) (E := E) (ρ := ρ) (xs := ps.toList) (fun x hx => hE x (by simpa using hx)) hl
      simpa using this
    · cases h
  case buildSlice t n ps =>
    split at h
    · rename_i l hl
      refine ok_buildSlice (ps := l) ?_ h
      have := evP_ok (φ := φ) (E := E) (ρ := ρ) (xs := ps.toList) (fun x hx => hE x (by simpa using hx)) hl
      simpa using this
    · cases h
  case load t a =>
    obtain ⟨v, hv, h⟩ := b1_some h
    obtain ⟨z, hz, rfl⟩ := tv_some h
    exact ok_load H (hE a (by simp) v hv) hz
  case store t a x =>
    obtain ⟨v, hv, h⟩ := b1_some h
    obtain ⟨y, hy, h⟩ := b1_some h
    obtain ⟨z, hz, rfl⟩ := te_some h
    exact ok_store H (hE a (by simp) v hv) (hE x (by simp) y hy) hz
  case nilCheck x =>
    obtain ⟨v, hv, h⟩ := b1_some h
    split at h
    · rename_i hs
      cases h
      have hx := hE x (by simp) v hv
      generalize ρ x = y at hx
      refine ⟨y, w, ?_, Same.refl w, hx⟩
      cases hx with
      | leaf hl => cases v <;> first | rfl | (rename_i q; cases q <;> first | rfl | (simp [sureB, isNilB] at hs; done) | (simp [leafB] at hl; done)) | (simp [sureB, isNilB] at hs; done) | (simp [leafB] at hl; done)
      | top => simp [sureB] at hs
      | @func fn _ _ _ _ => cases fn <;> first | rfl | (simp [sureB] at hs; done)
      | _ => rfl
    · cases h
  case binOp op t x y _ =>
    obtain ⟨v, hv, h⟩ := b1_some h
    obtain ⟨y', hy, h⟩ := b1_some h
    obtain ⟨z, hz, rfl⟩ := tv_some h
    rcases orV_some hz with hz | hz
    · rcases orV_some hz with hz | hz
      · exact ok_abin (hE x (by simp) v hv) (hE y (by simp) y' hy) hz
      · exact ok_acmp H (hE x (by simp) v hv) (hE y (by simp) y' hy) hz
    · exact ok_plain hE0 hz
  case unOp op t x =>
    obtain ⟨v, hv, rfl⟩ := tv_some h
    exact ok_plain hE0 hv
  case convert a b x =>
    obtain ⟨v, hv, h⟩ := b1_some h
    split at h
    · rename_i u' hu
      cases h
      exact ok_bytes (hE x (by simp) v hv) hu
    · obtain ⟨z, hz, rfl⟩ := tv_some h
      rcases orV_some hz with hz | hz
      · exact ok_plain hE0 hz
      · exact ok_conv H (hE x (by simp) v hv) hz
  case makeInterface t x =>
    obtain ⟨v, hv, h⟩ := b1_some h
    obtain ⟨z, hz, rfl⟩ := tv_some h
    exact ok_iface (hE x (by simp) v hv) hz
  case makeFunc fn first captured =>
    split at h
    · rename_i xs ys hx hy
      cases h
      have h1 := evL_ok (φ := φ) (E := E) (ρ := ρ) (xs := first.toList) (fun x hx => hE x (by simp at hx ⊢; exact .inl hx)) hx
      have h2 := evL_ok (φ := φ) (E := E) (ρ := ρ) (xs := captured.toList) (fun x hx => hE x (by simp at hx ⊢; exact .inr hx)) hy
      refine val_of (v' := .func fn (first.map ρ) (captured.map ρ)) (by simp [Instr.makeFunc]) (.func ?_ ?_ ?_ ?_)
      · have := h1.1; simpa using this
      · intro i v v' a b; exact h1.2 i v v' (by simpa using a) (by simpa using b)
      · have := h2.1; simpa using this
      · intro i v v' a b; exact h2.2 i v v' (by simpa using a) (by simpa using b)
    · cases h
  case makeMap t r =>
    cases r with
    | none => simp only at h; cases h; exact ok_makeMap
    | some x => cases h
  case makeSlice t l c =>
    obtain ⟨v, hv, h⟩ := b1_some h
    obtain ⟨y, hy, h⟩ := b1_some h
    exact ok_makeSlice (hE l (by simp) v hv) (hE c (by simp) y hy) h
  case slice t x lo hi mx =>
    cases mx with
    | some m => cases h
    | none =>
      simp only at h
      obtain ⟨v, hv, h⟩ := b1_some h
      split at h
      · rename_i l hh hl hhh
        obtain ⟨z, hz, rfl⟩ := tv_some h
        refine ok_slice H (hE x (by simp) v hv) ?_ ?_ hz
        · cases lo with
          | none => cases hl; trivial
          | some y =>
            simp only [optE] at hl
            split at hl
            · rename_i y' hy; cases hl; exact hE y (by simp) _ hy
            · cases hl
        · cases hi with
          | none => cases hhh; trivial
          | some y =>
            simp only [optE] at hhh
            split at hhh
            · rename_i y' hy; cases hhh; exact hE y (by simp) _ hy
            · cases hhh
      · cases h
  case fieldAddr t x i =>
    obtain ⟨v, hv, h⟩ := b1_some h
    obtain ⟨z, hz, rfl⟩ := tv_some h
    exact ok_fieldAddr (hE x (by simp) v hv) hz
  case field t x i =>
    obtain ⟨v, hv, h⟩ := b1_some h
    obtain ⟨z, hz, rfl⟩ := tv_some h
    exact ok_field (hE x (by simp) v hv) hz
  case indexAddr t x i =>
    obtain ⟨v, hv, h⟩ := b1_some h
    obtain ⟨y, hy, h⟩ := b1_some h
    obtain ⟨z, hz, rfl⟩ := tv_some h
    exact ok_indexAddr (hE x (by simp) v hv) (hE i (by simp) y hy) hz
  case index t x i =>
    obtain ⟨v, hv, h⟩ := b1_some h
    obtain ⟨y, hy, h⟩ := b1_some h
    obtain ⟨z, hz, rfl⟩ := tv_some h
    exact ok_index (hE x (by simp) v hv) (hE i (by simp) y hy) hz
  case lookup t x i ok =>
    obtain ⟨v, hv, h⟩ := b1_some h
    obtain ⟨y, hy, h⟩ := b1_some h
    obtain ⟨z, hz, rfl⟩ := tv_some h
    exact ok_lookup H (hE x (by simp) v hv) (hE i (by simp) y hy) hz
  case mapUpdate t m k x =>
    obtain ⟨v, hv, h⟩ := b1_some h
    obtain ⟨y, hy, h⟩ := b1_some h
    obtain ⟨x', hx, h⟩ := b1_some h
    obtain ⟨z, hz, rfl⟩ := te_some h
    exact ok_update H (hE m (by simp) v hv) (hE k (by simp) y hy) (hE x (by simp) x' hx) hz
  case insert t m k x =>
    obtain ⟨v, hv, h⟩ := b1_some h
    obtain ⟨y, hy, h⟩ := b1_some h
    obtain ⟨x', hx, h⟩ := b1_some h
    obtain ⟨z, hz, rfl⟩ := te_some h
    exact ok_update H (hE m (by simp) v hv) (hE k (by simp) y hy) (hE x (by simp) x' hx) hz
  case range t x =>
    obtain ⟨v, hv, h⟩ := b1_some h
    exact ok_range (hE x (by simp) v hv) h
  case next x s =>
    cases s with
    | false => cases h
    | true =>
      simp only at h
      obtain ⟨v, hv, h⟩ := b1_some h
      split at h
      · rename_i y st' hn
        cases h
        exact ok_next H (hE x (by simp) v hv) hn
      · cases h
  case typeAssert x a t ok =>
    obtain ⟨v, hv, h⟩ := b1_some h
    obtain ⟨z, hz, rfl⟩ := tv_some h
    exact ok_assert (hE x (by simp) v hv) hz
  case extract x i =>
    obtain ⟨v, hv, h⟩ := b1_some h
    obtain ⟨z, hz, rfl⟩ := tv_some h
    exact ok_extract (hE x (by simp) v hv) hz
  case call c =>
    obtain ⟨callee, args, argTypes⟩ := c
    simp only [Call.operands] at hE
    split at h
    · rename_i t x hc ht ha
      simp only at hc ht ha
      subst hc
      have e1 : argTypes = #[t] := by apply Array.ext'; simpa using ht
      have e2 : args = #[x] := by apply Array.ext'; simpa using ha
      subst e1; subst e2
      obtain ⟨v, hv, h⟩ := b1_some h
      obtain ⟨z, hz, rfl⟩ := tv_some h
      obtain ⟨r1, r2⟩ := run_alen (P := P) H (ty := type) (hE x (by simp) v hv) hz
      exact ⟨z, w, by simp [resolve, invoke, builtin, r1], Same.refl w, .leaf r2⟩
    · rename_i t x hc ht ha
      simp only at hc ht ha
      subst hc
      have e1 : argTypes = #[t] := by apply Array.ext'; simpa using ht
      have e2 : args = #[x] := by apply Array.ext'; simpa using ha
      subst e1; subst e2
      obtain ⟨v, hv, h⟩ := b1_some h
      obtain ⟨z, hz, rfl⟩ := tv_some h
      obtain ⟨r1, r2⟩ := run_acap (P := P) H (ty := type) (hE x (by simp) v hv) hz
      exact ⟨z, w, by simp [resolve, invoke, builtin, r1], Same.refl w, .leaf r2⟩
    · rename_i t u' x y hc ht ha
      simp only at hc ht ha
      subst hc
      have e1 : argTypes = #[t, u'] := by apply Array.ext'; simpa using ht
      have e2 : args = #[x, y] := by apply Array.ext'; simpa using ha
      subst e1; subst e2
      obtain ⟨v, hv, h⟩ := b1_some h
      obtain ⟨y', hy, h⟩ := b1_some h
      have := ok_append (ty := type) H (hE x (by simp) v hv) (hE y (by simp) y' hy) h
      simpa [resolve, invoke, builtin] using this
    · rename_i t u' x y hc ht ha
      simp only at hc ht ha
      subst hc
      have e1 : argTypes = #[t, u'] := by apply Array.ext'; simpa using ht
      have e2 : args = #[x, y] := by apply Array.ext'; simpa using ha
      subst e1; subst e2
      obtain ⟨v, hv, h⟩ := b1_some h
      obtain ⟨y', hy, h⟩ := b1_some h
      have := ok_copy (u := u') (ty := type) H (hE x (by simp) v hv) (hE y (by simp) y' hy) h
      simpa [resolve, invoke, builtin] using this
    · rename_i t u' x y hc ht ha
      simp only at hc ht ha
      subst hc
      have e1 : argTypes = #[t, u'] := by apply Array.ext'; simpa using ht
      have e2 : args = #[x, y] := by apply Array.ext'; simpa using ha
      subst e1; subst e2
      obtain ⟨v, hv, h⟩ := b1_some h
      obtain ⟨y', hy, h⟩ := b1_some h
      obtain ⟨z, hz, rfl⟩ := te_some h
      have := ok_delete (u := u') (ty := type) H (hE x (by simp) v hv) (hE y (by simp) y' hy) hz
      simpa [resolve, invoke, builtin] using this
    · rename_i t x hc ht ha
      simp only at hc ht ha
      subst hc
      have e1 : argTypes = #[t] := by apply Array.ext'; simpa using ht
      have e2 : args = #[x] := by apply Array.ext'; simpa using ha
      subst e1; subst e2
      obtain ⟨v, hv, h⟩ := b1_some h
      obtain ⟨z, hz, rfl⟩ := tv_some h
      obtain ⟨v', r1, r2⟩ := run_sliceData (P := P) H (ts := #[t]) (ty := type) (hE x (by simp) v hv) hz
      exact ⟨v', w, by simp [resolve, invoke, builtin, r1], Same.refl w, r2⟩
    · rename_i t u' x y hc ht ha
      simp only at hc ht ha
      subst hc
      have e1 : argTypes = #[t, u'] := by apply Array.ext'; simpa using ht
      have e2 : args = #[x, y] := by apply Array.ext'; simpa using ha
      subst e1; subst e2
      obtain ⟨v, hv, h⟩ := b1_some h
      obtain ⟨y', hy, h⟩ := b1_some h
      have := ok_unsafeStr (it := u') (ty := type) H (hE x (by simp) v hv) (hE y (by simp) y' hy) h
      simpa [resolve, invoke, builtin] using this
    · obtain ⟨v, hv, rfl⟩ := tv_some h
      exact ok_plain hE0 hv
    · obtain ⟨v, hv, rfl⟩ := tv_some h
      exact ok_plain hE0 hv
    · cases h
  all_goals cases h

/-! ### what is known of single operations -/
/-- bin: an operation on two values · len: how long a value is · un: an operation on one. -/
structure OpO where
  bin : BinOp → TypeId → Value → Value → Option Value
  len : TypeId → Value → Option Value
  un : UnOp → Value → Option Value
def noOpO : OpO := ⟨fun _ _ _ _ => none, fun _ _ => none, fun _ _ => none⟩
structure OpOk (P : Program) (w0 : W0) (oo : OpO) : Prop where
  bin : ∀ b t v u r, oo.bin b t v u = some r → ∀ φ, Sy w0 φ → ∀ v' u', VR φ v v' → VR φ u u' → ∀ xo yo w, ∃ r', (do eqGuard b t xo yo v' u'; binOp b t v' u' : Sem Value).run P w = .ok r' w ∧ VR φ r r'
  len : ∀ t v r, oo.len t v = some r → ∀ φ, Sy w0 φ → ∀ v', VR φ v v' → ∀ ty w, ∃ r', (Builtin.len_ #[t] ty #[v']).run P w = .ok r' w ∧ VR φ r r'
  un : ∀ o v r, oo.un o v = some r → ∀ φ, Sy w0 φ → ∀ v', VR φ v v' → ∀ w, ∃ r', (Op.unary o v').run P w = .ok r' w ∧ VR φ r r'
theorem noOpO_ok (P : Program) (w0 : W0) : OpOk P w0 noOpO := ⟨fun _ _ _ _ _ h => (nomatch h), fun _ _ _ h => (nomatch h), fun _ _ _ h => (nomatch h)⟩
def opAsk (oo : OpO) (E : Operand → Option Value) : Op → Option Value
  | .binOp b t x y _ => (match E x, E y with
    | some v, some u => oo.bin b t v u
    | _, _ => none)
  | .call c => (match c.callee, c.argTypes.toList, c.args.toList with
    | .builtin .len, [t], [x] => (match E x with
      | some v => oo.len t v
      | none => none)
    | _, _, _ => none)
  | .unOp o _ x => (match E x with
    | some v => oo.un o v
    | none => none)
  | _ => none
def exec1 (P : Program) (oo : OpO) (E : Operand → Option Value) (st : St) (o : Oper) : Option Out := match opAsk oo E o.op with
  | some v => some (.val v)
  | none => exec0 P E st o
theorem exec1_ok {P : Program} {oo : OpO} {w0 : W0} (ho : OpOk P w0 oo) {w : World} {φ : Pm} {st : St} (H : HR w0 φ st w) {E : Operand → Option Value} {ρ : Operand → Value} {o : Oper} (hE : ER' φ E ρ o) {u : Out} (h : exec1 P oo E st o = some u) :
    Out.ok P w0 φ st w (execOp ρ o) u := by
  unfold exec1 at h
  split at h
  · rename_i v hv
    cases h
    obtain ⟨dst, op, type, pos, after, guard⟩ := o
    unfold ER' at hE
    cases op <;> simp only [opAsk] at hv <;> first | (cases hv; done) | skip
    case binOp b t x y z =>
      simp only [Op.operands] at hE
      split at hv
      · rename_i a c ha hc
        obtain ⟨r', h1, h2⟩ := ho.bin _ _ _ _ _ hv φ H.sym _ _ (hE x (by simp) _ ha) (hE y (by simp) _ hc) x y w
        exact val_of h1 h2
      · cases hv
    case unOp o t x =>
      simp only [Op.operands] at hE
      split at hv
      · rename_i a ha
        obtain ⟨r', h1, h2⟩ := ho.un _ _ _ hv φ H.sym _ (hE x (by simp) _ ha) w
        exact ⟨r', w, by simp [execOp, h1], Same.refl w, h2⟩
      · cases hv
    case call c =>
      obtain ⟨callee, args, argTypes⟩ := c
      simp only [Op.operands, Call.operands] at hE
      split at hv
      · rename_i t x hc ht ha
        simp only at hc ht ha
        subst hc
        have e1 : argTypes = #[t] := by apply Array.ext'; simpa using ht
        have e2 : args = #[x] := by apply Array.ext'; simpa using ha
        subst e1; subst e2
        split at hv
        · rename_i a ha
          obtain ⟨r', h1, h2⟩ := ho.len _ _ _ hv φ H.sym _ (hE x (by simp) _ ha) type w
          exact ⟨r', w, by simp [execOp, resolve, invoke, builtin, h1], Same.refl w, h2⟩
        · cases hv
      · cases hv
  · exact exec0_ok H hE h
end Go.Ev

namespace Go.Ev
open Go Go.RowKit

def memN (n : Nat) : List Nat → Bool
  | [] => false
  | m :: l => Nat.beq m n || memN n l
theorem memN_eq (n : Nat) : ∀ l : List Nat, memN n l = (⟨l⟩ : Array Nat).contains n
  | [] => by simp [memN]
  | m :: l => by
    have ih := memN_eq n l
    simp only [memN, ih, List.contains_toArray, List.contains_cons]
    congr 1
    by_cases e : m = n
    · subst e; rw [Nat.beq_refl]; simp
    · have : ¬ n = m := fun h => e h.symm
      rw [show Nat.beq m n = false from by cases hb : Nat.beq m n with | false => rfl | true => exact absurd (Nat.eq_of_beq_eq_true hb) e]
      simp [this]
def leftE (seen : List Nat) : List MapEntry → List MapEntry
  | [] => []
  | e :: es => if memN e.born seen then leftE seen es else e :: leftE seen es
theorem leftE_eq (seen : List Nat) : ∀ es : List MapEntry, leftE seen es = es.filter fun e => !(⟨seen⟩ : Array Nat).contains e.born
  | [] => rfl
  | e :: es => by
    simp only [leftE, memN_eq, List.filter_cons, leftE_eq seen es]
    cases (⟨seen⟩ : Array Nat).contains e.born <;> simp
theorem EsR.cons {φ : Pm} {e e' : MapEntry} {es es' : List MapEntry} (h : ER φ e e') (k : EsR φ es es') : EsR φ (e :: es) (e' :: es') :=
  ⟨by simp [k.1], fun i a b ha hb => by cases i with
    | zero => simp at ha hb; subst ha; subst hb; exact h
    | succ i => exact k.2 i a b (by simpa using ha) (by simpa using hb)⟩
theorem EsR.left {φ : Pm} (seen : List Nat) : ∀ {es es' : List MapEntry}, EsR φ es es' → EsR φ (leftE seen es) (leftE seen es')
  | [], [], h => h
  | [], _ :: _, h => absurd h.1 (by simp)
  | _ :: _, [], h => absurd h.1 (by simp)
  | e :: es, e' :: es', h => by
    obtain ⟨h1, h2⟩ := h.cons_inv
    simp only [leftE, h1.2.2]
    split
    · exact EsR.left seen h2
    · exact EsR.cons h1 (EsR.left seen h2)
def allGe (last : Nat) : List MapEntry → Bool
  | [] => true
  | e :: es => Nat.ble last e.born && allGe last es
theorem allGe_eq {φ : Pm} (last : Nat) : ∀ {es es' : List MapEntry}, EsR φ es es' → es'.all (fun e => decide (e.born ≥ last)) = allGe last es
  | [], [], _ => rfl
  | [], _ :: _, h => absurd h.1 (by simp)
  | _ :: _, [], h => absurd h.1 (by simp)
  | e :: es, e' :: es', h => by
    obtain ⟨h1, h2⟩ := h.cons_inv
    simp only [List.all_cons, allGe, allGe_eq last h2, h1.2.2]
    congr 1
    by_cases hh : last ≤ e.born
    · rw [Nat.ble_eq_true_of_le hh]; simp [hh]
    · cases hb : Nat.ble last e.born with
      | false => simp [hh]
      | true => exact absurd (Nat.le_of_ble_eq_true hb) hh
def isNilL {α : Type} : List α → Bool | [] => true | _ => false

def lastN : List Nat → Option Nat
  | [] => none
  | [n] => some n
  | _ :: m :: l => lastN (m :: l)
theorem lastN_eq : ∀ l : List Nat, lastN l = (⟨l⟩ : Array Nat).back?
  | [] => by simp [lastN]
  | [n] => by simp [lastN]
  | _ :: m :: l => by
    rw [lastN, lastN_eq (m :: l)]
    simp
def findE (n : Nat) : List MapEntry → Option MapEntry
  | [] => none
  | e :: es => if Nat.beq e.born n then some e else findE n es
theorem findE_ok {φ : Pm} (n : Nat) : ∀ {es es' : List MapEntry} {e : MapEntry}, EsR φ es es' → findE n es = some e → ∃ e', es'.find? (·.born == n) = some e' ∧ ER φ e e'
  | [], _, _, _, h => by cases h
  | _ :: _, [], _, h, _ => absurd h.1 (by simp)
  | a :: es, a' :: es', e, h, k => by
    obtain ⟨h1, h2⟩ := h.cons_inv
    simp only [findE] at k
    split at k
    · rename_i hb
      cases k
      have hb := Nat.eq_of_beq_eq_true hb
      exact ⟨a', by rw [List.find?_cons, show (a'.born == n) = true from by rw [h1.2.2, hb]; simp], h1⟩
    · rename_i hb
      obtain ⟨e', k1, k2⟩ := findE_ok n h2 k
      refine ⟨e', ?_, k2⟩
      rw [List.find?_cons, show (a'.born == n) = false from by
        rw [h1.2.2]
        cases hh : a.born == n with
        | false => rfl
        | true => exact absurd (by rw [beq_iff_eq.1 hh]; exact Nat.beq_refl n) hb]
      exact k1

/-- Range, Next and Entry over a map. -/
def amap (P : Program) (E : Operand → Option Value) (st : St) (o : Oper) : Option (Value × St) := match o.op with
  | .range t x => match E x, P.underlying t with
    | some (.map (some m)), some (.map _ _) => match st.heap.get m with
      | some (.map _ clock) => some (.pointer (some ⟨st.next, 0, none⟩), ⟨st.heap.put st.next (some (.miter (some m) clock [] clock)), st.next + 1⟩)
      | _ => none
    | _, _ => none
  | .next x false => match E x with
    | some (.pointer (some ⟨b, 0, none⟩)) => match st.heap.get b with
      | some (.miter (some m) since seen last) => match st.heap.get m with
        | some (.map es clock) => if !isNilL seen && (!isNilL es && allGe last es) then none else match leftE seen es with
          | [] => some (.tuple ⟨[.bool false]⟩, st)
          | [e] => if Nat.blt e.born since then some (.tuple ⟨[.bool true, e.key, e.val]⟩, ⟨st.heap.put b (some (.miter (some m) since (seen ++ [e.born]) clock)), st.next⟩) else none
          | _ => none
        | _ => none
      | _ => none
    | _ => none
  | .entry x => match E x with
    | some (.pointer (some ⟨b, 0, none⟩)) => match st.heap.get b with
      | some (.miter (some m) _ seen last) => match st.heap.get m, lastN seen with
        | some (.map es clock), some stamp => if Nat.beq clock last then match findE stamp es with
            | some e => some (.tuple ⟨[e.key, e.val]⟩, st)
            | none => none
          else none
        | _, _ => none
      | _ => none
    | _ => none
  | _ => none

theorem run_choose1 {P : Program} {w : World} {n : Nat} (h : n ≤ 1) : (choose (.mapNext n)).run P w = .ok 0 w := by
  simp [choose, Sem.run, Question.forced, h]

theorem amap_ok {P : Program} {w0 : W0} {w : World} {φ : Pm} {st : St} (H : HR w0 φ st w) {E : Operand → Option Value} {ρ : Operand → Value} {o : Oper} (hE : ER' φ E ρ o) {v : Value} {st' : St} (h : amap P E st o = some (v, st')) :
    ∃ φ' v' w', (execOp ρ o).run P w = .ok (.value v') w' ∧ HR w0 φ' st' w' ∧ Kept st φ st' φ' ∧ VR φ' v v' := by
  obtain ⟨dst, op, type, pos, after, guard⟩ := o
  unfold ER' at hE
  unfold amap at h
  cases op <;> simp only [Op.operands] at hE <;> simp only at h <;> try (cases h; done)
  case range t x =>
    split at h
    · rename_i m kt et hx hu
      split at h
      · rename_i es clock hm
        cases h
        have hv := hE x (by simp) _ hx
        generalize hρ : ρ x = x' at hv
        cases hv with
        | leaf hl => simp [leafB] at hl
        | @map _ B hB =>
          obtain ⟨B', o, S, g, s, k1, k2, es', k3, k4, k5⟩ := H.obj _ _ hm hB.ne
          have hB0 := hB
          unfold MR at hB
          simp only [k1] at hB
          subst hB
          have hb := H.fresh st.next (Nat.le_refl _)
          have hle : Le φ (φ.tell st.next (.live w.heap.size 0 0 false 0)) := Le.tell hb
          refine ⟨φ.tell st.next (.live w.heap.size 0 0 false 0), .pointer (some ⟨w.heap.size, 0, none⟩), w.alloc (.mapIter (some B) clock #[] clock), ?_, H.new hb (Nat.le_succ _) (Nat.lt_succ_self _) rfl rfl rfl rfl ⟨rfl, some B, rfl, MR.mono hle hB0⟩, ⟨Nat.le_succ _, hle, fun c hc hn => ?_⟩, .ptr (by unfold AR; simp [Pm.tell_same])⟩
          · simp [execOp, hρ, Instr.range, run_underlying hu, run_getMap k3]
          · have : c ≠ st.next := by omega
            refine ⟨by rw [Pm.tell_other _ _ _ _ this]; exact hn, ?_⟩
            rw [Tr.get_put_eq, if_neg this]
      · cases h
    · cases h
  case next x s =>
    cases s with
    | true => cases h
    | false =>
      simp only at h
      split at h
      · rename_i b hx
        have hv := hE x (by simp) _ hx
        generalize hρ : ρ x = x' at hv
        split at h
        · rename_i m since seen last hb
          cases hv with
          | leaf hl => simp [leafB] at hl
          | ptr ha =>
            obtain ⟨B, o, S, g, z, k1, k2, k0, m', k3, k4⟩ := H.obj _ _ hb ha.ne
            subst k0
            unfold AR at ha
            simp only [k1] at ha
            obtain ⟨_, rfl⟩ := ha
            cases m' with
            | none => exact k4.elim
            | some M =>
              have k4 : MR φ m M := k4
              split at h
              · rename_i es clock hm
                obtain ⟨M', o2, S2, g2, s2, q1, q2, es', q3, q4, q5⟩ := H.obj _ _ hm k4.ne
                have k40 := k4
                unfold MR at k4
                simp only [q1] at k4
                subst k4
                have hes : EsR φ es es'.toList := ⟨by simpa using q4, fun i e e' a b => q5 i e e' a (by simpa using b)⟩
                have hgo : (getObj B).run P w = .ok (.mapIter (some M) since ⟨seen⟩ last) w := by simp [getObj, Sem.run, k3]
                have hne : ∀ a b c, Obj.mapIter (some M) since ⟨seen⟩ last ≠ .cells a b c := fun a b c e => by cases e
                split at h
                · cases h
                rename_i hg
                have hguard : (!(⟨seen⟩ : Array Nat).isEmpty && !es'.isEmpty && es'.all fun e => decide (e.born ≥ last)) = false := by
                  have e1 : (⟨seen⟩ : Array Nat).isEmpty = isNilL seen := by cases seen <;> rfl
                  have e2 : es'.isEmpty = isNilL es := by
                    cases es with
                    | nil =>
                      have : es'.size = 0 := by simpa using q4.symm
                      simp [Array.isEmpty, this, isNilL]
                    | cons e es =>
                      have : es'.size ≠ 0 := by simp at q4; omega
                      simp [Array.isEmpty, this, isNilL]
                  have e3 : (es'.all fun e => decide (e.born ≥ last)) = allGe last es := by
                    rw [← allGe_eq last hes, Array.all_toList]
                  rw [e1, e2, e3]
                  simpa [Bool.and_assoc] using hg
                have hleft := EsR.left seen hes
                have hfil : es'.filter (fun e => !(⟨seen⟩ : Array Nat).contains e.born) = ⟨leftE seen es'.toList⟩ := by
                  apply Array.ext'
                  rw [Array.toList_filter, leftE_eq]
                split at h
                · rename_i he
                  cases h
                  have hl0 : leftE seen es'.toList = [] := by
                    rw [he] at hleft
                    exact List.eq_nil_of_length_eq_zero hleft.1.symm
                  refine ⟨φ, .tuple #[.bool false], w, ?_, H, Kept.refl _ _, VR.tuple_iff.2 (LR.cons (.leaf rfl) LR.nil)⟩
                  simp only [execOp, hρ]
                  refine run_val ?_
                  simp only [Instr.next, Nat.zero_add, Sem.run_bind, hgo, Result.andThen_ok, run_getMap q3, hguard, Bool.false_eq_true, if_false, hfil, hl0]
                  simp [choose, Sem.run, Question.forced]
                · rename_i e he
                  split at h
                  · rename_i hlt
                    have hlt : e.born < since := by simp [Nat.blt] at hlt; omega
                    cases h
                    rw [he] at hleft
                    obtain ⟨e', hl1⟩ : ∃ e', leftE seen es'.toList = [e'] := by
                      have hlen := hleft.1
                      rcases hh : leftE seen es'.toList with _ | ⟨e', _ | ⟨e2, l⟩⟩
                      · rw [hh] at hlen; simp at hlen
                      · exact ⟨e', rfl⟩
                      · rw [hh] at hlen; simp at hlen
                    rw [hl1] at hleft
                    obtain ⟨⟨r1, r2, r3⟩, _⟩ := hleft.cons_inv
                    have hlt' : e'.born < since := by rw [r3]; exact hlt
                    have hle' : ¬ since ≤ e'.born := by omega
                    refine ⟨φ, .tuple #[.bool true, e'.key, e'.val], _, ?_, H.turn hb rfl k1 (ob := .miter (some m) since (seen ++ [e.born]) clock) (ob' := .mapIter (some M) since ⟨seen ++ [e.born]⟩ clock) (w' := { w with heap := w.heap.setIfInBounds B (.mapIter (some M) since ⟨seen ++ [e.born]⟩ clock) })
                      (set_heap w _ _ _ k3) (by simp) (fun k hk => set_other w _ k _ hk) rfl rfl rfl ⟨rfl, some M, rfl, k40⟩, Kept.put k1 _, VR.tuple_iff.2 (LR.cons (.leaf rfl) (LR.cons r1 (LR.cons r2 LR.nil)))⟩
                    simp only [execOp, hρ]
                    refine run_val ?_
                    have hpush : (⟨seen⟩ : Array Nat).push e'.born = ⟨seen ++ [e.born]⟩ := by rw [r3]; simp
                    simp only [Instr.next, Nat.zero_add, Sem.run_bind, hgo, Result.andThen_ok, run_getMap q3, hguard, Bool.false_eq_true, if_false, hfil, hl1]
                    have f1 : Array.filter (fun x => decide (x.born < since)) #[e'] = #[e'] := by simp [hlt']
                    have f2 : Array.filter (fun x => decide (x.born ≥ since)) #[e'] = #[] := by simp [hlt']
                    have f3 : ((if (#[e'] : Array MapEntry).isEmpty = true then #[none] else #[]) ++ Array.map some (#[e'] ++ #[])) = #[some e'] := by simp
                    simp only [f1, f2, f3]
                    rw [run_choose1 (by simp)]
                    simp only [Result.andThen_ok, List.getElem?_toArray, List.getElem?_cons_zero, Sem.run_bind, hpush, run_setObj k3 hne, Sem.run_pure]
                  · cases h
                · cases h
              · cases h
        · cases h
      · cases h
  case entry x =>
    split at h
    · rename_i b hx
      have hv := hE x (by simp) _ hx
      generalize hρ : ρ x = x' at hv
      split at h
      · rename_i m since seen last hb
        cases hv with
        | leaf hl => simp [leafB] at hl
        | ptr ha =>
          obtain ⟨B, o, S, g, z, k1, k2, k0, m', k3, k4⟩ := H.obj _ _ hb ha.ne
          subst k0
          unfold AR at ha
          simp only [k1] at ha
          obtain ⟨_, rfl⟩ := ha
          cases m' with
          | none => exact k4.elim
          | some M =>
            have k4 : MR φ m M := k4
            split at h
            · rename_i es clock stamp hm hs
              obtain ⟨M', o2, S2, g2, s2, q1, q2, es', q3, q4, q5⟩ := H.obj _ _ hm k4.ne
              unfold MR at k4
              simp only [q1] at k4
              subst k4
              have hes : EsR φ es es'.toList := ⟨by simpa using q4, fun i e e' a b => q5 i e e' a (by simpa using b)⟩
              have hgo : (getObj B).run P w = .ok (.mapIter (some M) since ⟨seen⟩ last) w := by simp [getObj, Sem.run, k3]
              split at h
              · rename_i hc
                have hc := Nat.eq_of_beq_eq_true hc
                subst hc
                split at h
                · rename_i e he
                  cases h
                  obtain ⟨e', r1, r2⟩ := findE_ok stamp hes he
                  have r3 : es'.find? (·.born == stamp) = some e' := by rw [← Array.find?_toList]; exact r1
                  have hb2 : (⟨seen⟩ : Array Nat).back? = some stamp := by rw [← lastN_eq]; exact hs
                  refine ⟨φ, .tuple #[e'.key, e'.val], w, ?_, H, Kept.refl _ _, VR.tuple_iff.2 (LR.cons r2.1 (LR.cons r2.2.1 LR.nil))⟩
                  simp only [execOp, hρ]
                  refine run_val ?_
                  simp only [Instr.entry, Nat.zero_add, Sem.run_bind, hgo, Result.andThen_ok, hb2, run_getMap q3, bne_self_eq_false, Bool.false_eq_true, if_false, r3]
                  simp
                · cases h
              · cases h
            · cases h
      · cases h
    · cases h
end Go.Ev

