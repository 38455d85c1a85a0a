/-
  One operation, told plainly: every kind that closed code needs.
-/
import Derived.Test.YtnfmfofialoioaaGreatDoorEvI
import Derived.Lib.Builder
import Derived.Lib.UnsafeStr
import Derived.Laws.IdiomStrings
import Derived.Test.YtnfmfofialoioaaGreatDoorEvE
namespace Go.Ev
open Go Go.RowKit Go.Lib

def evL (E : Operand → Option Value) : List Operand → Option (List Value)
  | [] => some []
  | x :: xs => match E x, evL E xs with
    | some v, some vs => some (v :: vs)
    | _, _ => none
def evP (E : Operand → Option Value) : List (Nat × Operand) → Option (List (Nat × Value))
  | [] => some []
  | (i, x) :: xs => match E x, evP E xs with
    | some v, some vs => some ((i, v) :: vs)
    | _, _ => none
theorem evL_ok {φ : Pm} {E : Operand → Option Value} {ρ : Operand → Value} : ∀ {xs : List Operand} {vs : List Value}, (∀ x ∈ xs, ∀ v, E x = some v → VR φ v (ρ x)) → evL E xs = some vs → LR φ vs (xs.map ρ)
  | [], vs, _, h => by cases h; exact LR.nil
  | x :: xs, vs, hx, h => by
    simp only [evL] at h
    split at h
    · rename_i v ws hv hw
      cases h
      exact LR.cons (hx x (by simp) v hv) (evL_ok (fun y hy => hx y (by simp [hy])) hw)
    · cases h
theorem evP_ok {φ : Pm} {E : Operand → Option Value} {ρ : Operand → Value} : ∀ {xs : List (Nat × Operand)} {vs : List (Nat × Value)}, (∀ x ∈ xs.map (·.2), ∀ v, E x = some v → VR φ v (ρ x)) → evP E xs = some vs →
    PR φ vs (xs.map fun p => (p.1, ρ p.2))
  | [], vs, _, h => by cases h; exact ⟨rfl, fun i p p' a => by simp at a⟩
  | (i, x) :: xs, vs, hx, h => by
    simp only [evP] at h
    split at h
    · rename_i v ws hv hw
      cases h
      have ih := evP_ok (fun y hy => hx y (by simp only [List.map_cons, List.mem_cons]; exact .inr hy)) hw
      refine ⟨by simpa using ih.1, fun j p p' a b => ?_⟩
      cases j with
      | zero => simp at a b; subst a; subst b; exact ⟨rfl, hx x (by simp) v hv⟩
      | succ j => exact ih.2 j p p' (by simpa using a) (by simpa using b)
    · cases h

/-! ### type assertions -/
def aassert (P : Program) (x : Value) (asserted : TypeId) (ok : Bool) : Option Value :=
  match P.underlying asserted, x with
  | some (.interface want), .iface t _ => match P.info? t with
    | some i => match Instr.missingMethod want i.methods with
      | none => some (if ok then .tuple ⟨[x, .bool true]⟩ else x)
      | some _ => if ok then match zeroB P asserted with
        | some z => some (.tuple ⟨[z, .bool false]⟩)
        | none => none
        else none
    | none => none
  | some _, .nilIface => if ok then match zeroB P asserted with
    | some z => some (.tuple ⟨[z, .bool false]⟩)
    | none => none
    else none
  | some _, .iface t v => if t = asserted then some (if ok then .tuple ⟨[v, .bool true]⟩ else v)
    else if ok then match zeroB P asserted with
      | some z => some (.tuple ⟨[z, .bool false]⟩)
      | none => none
    else none
  | _, _ => none
theorem VR.yes {φ : Pm} {v v' : Value} (h : VR φ v v') : VR φ (.tuple ⟨[v, .bool true]⟩) (.tuple #[v', .bool true]) := VR.pair h (.leaf rfl)
theorem ok_assert {P : Program} {w0 : W0} {w : World} {φ : Pm} {st : St} {x x' : Value} {xt t : TypeId} {ok : Bool} (hx : VR φ x x') {v : Value} (h : aassert P x t ok = some v) :
    Out.ok P w0 φ st w (do pure (.value (← Instr.typeAssert x' xt t ok))) (.val v) := by
  have zero : ∀ z, zeroB P t = some z → (zeroValue t).run P w = .ok z w ∧ VR φ (.tuple ⟨[z, .bool false]⟩) (.tuple #[z, .bool false]) := fun z hz => by
    obtain ⟨h1, h2⟩ := run_zero hz w
    exact ⟨h1, VR.pair (plain_refl 3 z h2) (.leaf rfl)⟩
  unfold aassert at h
  split at h
  · rename_i want u v' hu
    cases hx with
    | leaf hl => simp [leafB] at hl
    | iface hv =>
      split at h
      · rename_i i hi
        split at h
        · rename_i hm
          cases h
          cases ok
          · exact val_of (by simp [Instr.typeAssert, run_underlying hu, typeInfo, hi, hm]) (.iface hv)
          · exact val_of (by simp [Instr.typeAssert, run_underlying hu, typeInfo, hi, hm]) (VR.yes (.iface hv))
        · rename_i m hm
          split at h
          · rename_i hok
            subst hok
            split at h
            · rename_i z hz
              cases h
              obtain ⟨z1, z2⟩ := zero z hz
              exact val_of (by simp [Instr.typeAssert, run_underlying hu, typeInfo, hi, hm, z1]) z2
            · cases h
          · cases h
      · cases h
  · rename_i d hu
    split at h
    · rename_i hok
      subst hok
      split at h
      · rename_i z hz
        cases h
        obtain ⟨z1, z2⟩ := zero z hz
        cases hx with
        | leaf => exact val_of (by cases d <;> simp [Instr.typeAssert, run_underlying hu, z1]) z2
      · cases h
    · cases h
  · rename_i d u v' hd hu
    cases hx with
    | leaf hl => simp [leafB] at hl
    | iface hv =>
      split at h
      · rename_i e
        subst e
        cases h
        cases ok
        · refine val_of ?_ hv
          cases d <;> first | exact (hd _ rfl).elim | (simp [Instr.typeAssert, run_underlying hu]; done)
        · refine val_of ?_ (VR.yes hv)
          cases d <;> first | exact (hd _ rfl).elim | (simp [Instr.typeAssert, run_underlying hu]; done)
      · rename_i e
        split at h
        · rename_i hok
          subst hok
          split at h
          · rename_i z hz
            cases h
            obtain ⟨z1, z2⟩ := zero z hz
            refine val_of ?_ z2
            cases d <;> first | exact (hd _ rfl).elim | (simp [Instr.typeAssert, run_underlying hu, e, z1]; done)
          · cases h
        · cases h
  · cases h
/-! ### pointers that lose their type, and get it back -/
def aconv (P : Program) (st : St) (src dst : TypeId) (x : Value) : Option Value := match P.underlying src, P.underlying dst, x with
  | some (.pointer t), some .unsafePointer, .pointer (some a) => match P.info? t, st.heap.get a.block with
    | some j, some (.cells cs _ false _) => if j.size = 0 then none else if Nat.blt a.off cs.length then some x else none
    | _, _ => none
  | some .unsafePointer, some (.pointer u), .pointer (some a) => match P.info? u, st.heap.get a.block with
    | some _, some (.cells cs e false _) => if liesAt P P.depth e (cs.length / P.cellsOf e) a.off u 1 then some x else none
    | _, _ => none
  | _, _, _ => none
theorem ok_conv {P : Program} {w0 : W0} {w : World} {φ : Pm} {st : St} (H : HR w0 φ st w) {src dst : TypeId} {x x' : Value} (hx : VR φ x x') {v : Value} (h : aconv P st src dst x = some v) :
    Out.ok P w0 φ st w (do pure (.value (← convert src dst x'))) (.val v) := by
  have shape : ∀ {a a' : Addr} {cs : List Value} {e : TypeId} {s : Nat}, AR φ a a' → st.heap.get a.block = some (.cells cs e false s) → a'.off = a.off ∧ w.shape? a'.block = some (e, cs.length) := by
    intro a a' cs e s ha hb
    obtain ⟨B, o, S, g, s', k1, k2, k3, k4, arr, k5, k6, k7, k8, k9⟩ := H.obj _ _ hb ha.ne
    unfold AR at ha
    simp only [k1] at ha
    obtain ⟨_, rfl⟩ := ha
    obtain ⟨o0, hS⟩ := k8 k3
    refine ⟨by simp [o0], ?_⟩
    simp [World.shape?, k5, k6, hS]
  unfold aconv at h
  split at h
  · rename_i t a h1 h2
    split at h
    · rename_i j cs e s h3 h4
      split at h
      · cases h
      · rename_i hj
        split at h
        · rename_i hlt
          cases h
          cases hx with
          | leaf hl => simp [leafB] at hl
          | @ptr _ a' ha =>
            obtain ⟨s1, s2⟩ := shape ha h4
            refine val_of (run_to_unsafe w a' h1 h2 h3 hj s2 ?_) (.ptr ha)
            rw [s1]
            exact Nat.le_of_ble_eq_true hlt
        · cases h
    · cases h
  · rename_i u a h1 h2
    split at h
    · rename_i j cs e s h3 h4
      split at h
      · rename_i hl
        cases h
        cases hx with
        | leaf hl => simp [leafB] at hl
        | @ptr _ a' ha =>
          obtain ⟨s1, s2⟩ := shape ha h4
          refine val_of (run_from_unsafe w a' h1 h2 h3 s2 ?_) (.ptr ha)
          rw [s1]
          exact hl
      · cases h
    · cases h
  · cases h

/-! ### a text's bytes, and a text of bytes -/
def abytes (P : Program) (src dst : TypeId) (x : Value) : Option Out := match P.underlying src, P.underlying dst, x with
  | some .string, some (.slice e), .string s => match P.underlying e with
    | some (.int .u8) => if isMark s then none else some (.new (.bytes (byteCells s) e) fun b => .slice (some ⟨b, 0, none⟩) s.data.toList.length s.data.toList.length)
    | _ => none
  | _, _, _ => none
theorem ok_bytes {P : Program} {w0 : W0} {w : World} {φ : Pm} {st : St} {src dst : TypeId} {x x' : Value} (hx : VR φ x x') {u : Out} (h : abytes P src dst x = some u) :
    Out.ok P w0 φ st w (do pure (.value (← convert src dst x'))) u := by
  unfold abytes at h
  split at h
  · rename_i e s h1 h2
    split at h
    · rename_i h3
      split at h
      · cases h
      rename_i hnm
      cases h
      cases hx with
      | opq hm => exact absurd hm hnm
      | leaf =>
        have hr := run_bytes_of_string w src dst e s h1 h2 h3
        have hge := grownCap_ge w s.size 0 e
        have hl : s.data.toList.length = s.size := by simp
        have hsz : (bytesRow s (grownCap w s.size 0 e)).size = grownCap w s.size 0 e := by
          have e1 : s.data.size = s.size := rfl
          simp only [bytesRow, Array.size_append, Array.size_map, Array.size_replicate, e1]
          omega
        have hrun := congrArg (fun r => r.andThen fun (a : Value) w' => (pure (Next.value a) : Sem Next).run P w') hr
        rw [← Sem.run_bind] at hrun
        refine ⟨_, _, _, grownCap w s.size 0 e, true, 1, hrun, rfl, rfl, rfl, rfl, ?_⟩
        intro φ' b hle hb
        refine ⟨⟨_, _, rfl, hsz, by rw [byteCells_length]; omega, ?_⟩, .slice (by unfold AR; simp [hb]) ?_⟩
        · rw [List.drop_zero, bytesRow, Array.toList_append]
          have : ((s.data.map fun b => Value.int .u8 b.toNat).toList ++ (Array.replicate (grownCap w s.size 0 e - s.size) (Value.int .u8 0)).toList).take (byteCells s).length = byteCells s := by
            rw [show (s.data.map fun b => Value.int .u8 b.toNat).toList = byteCells s by simp [byteCells]]
            exact List.take_left
          rw [this]
          exact bytes_rel _
        · unfold CR
          simp only [hb, if_true, hl]
          exact ⟨hge, by omega⟩
    · cases h
  · cases h

def asliceData (st : St) (x : Value) : Option Value := match x with
  | .slice none _ _ => some (.pointer none)
  | .slice (some a) l c => match st.heap.get a.block with
    | some (.cells ..) => if Nat.blt 0 l && Nat.blt 0 c then some (.pointer (some a)) else none
    | _ => none
  | _ => none
theorem run_sliceData {P : Program} {w0 : W0} {w : World} {φ : Pm} {st : St} (H : HR w0 φ st w) {ts : Array TypeId} {ty : TypeId} {x x' : Value} (hx : VR φ x x') {v : Value} (h : asliceData st x = some v) :
    ∃ v', (Builtin.unsafeSliceData_ ts ty #[x']).run P w = .ok v' w ∧ VR φ v v' := by
  unfold asliceData at h
  split at h
  · cases h
    cases hx with
    | leaf => exact ⟨_, run_unsafeSliceData_nil w ts ty _ _, .leaf rfl⟩
  · rename_i a l c
    split at h
    · rename_i cs e g s hb
      split at h
      · rename_i hlc
        simp only [Bool.and_eq_true] at hlc
        have h1 : 0 < l := Nat.le_of_ble_eq_true hlc.1
        have h2 : 0 < c := Nat.le_of_ble_eq_true hlc.2
        cases h
        cases hx with
        | leaf hl => simp [leafB] at hl
        | @slice _ a' _ _ c' ha hc =>
          obtain ⟨B, o, S, g', s', k1, k2⟩ := H.obj _ _ hb ha.ne
          unfold CR at hc
          simp only [k1] at hc
          have hc' : c' ≠ 0 := by
            split at hc
            · omega
            · omega
          exact ⟨_, run_unsafeSliceData_row w ts ty a' l c' hc', .ptr ha⟩
      · cases h
    · cases h
  · cases h

theorem HR.kill2 {w0 : W0} {w w' : World} {φ : Pm} {st : St} (h : HR w0 φ st w) {b : Nat} {x : Ob} (hb : st.heap.get b = some x) {B o S : Nat} {g : Bool} {s : Nat} (hp : φ b = .live B o S g s)
    (hz : w'.heap.size = w.heap.size) (ho : ∀ k, k ≠ B → w'.heap[k]? = w.heap[k]?) (h1 : w'.os = w.os) (h2 : w'.tape = w.tape) (h3 : w'.output = w.output) :
    HR w0 (φ.tell b .dead) ⟨st.heap.put b none, st.next⟩ w' := by
  obtain ⟨B', o', S', g', s', k1, k2, _⟩ := h.obj b x hb (by rw [hp]; simp)
  have eB : B' = B := by rw [hp] at k1; cases k1; rfl
  rw [eB] at k2
  have hk := h.kill hp
  refine ⟨h.below.trans ⟨h1, h2, h3, by omega, fun k hk => ho k (by omega)⟩, hk.fresh, hk.absent, fun c y hc hcn => ?_, hk.inj, fun c B o S g s hc => (by rw [hz]; exact hk.used c B o S g s hc), hk.sym⟩
  obtain ⟨B2, o2, S2, g2, s2, q1, q2, q3⟩ := hk.obj c y hc hcn
  have hne : B2 ≠ B := fun e => by
    subst e
    by_cases e2 : c = b
    · subst e2; rw [Pm.tell_same] at q1; cases q1
    · rw [Pm.tell_other _ _ _ _ e2] at q1
      exact e2 (h.inj _ _ _ _ _ _ _ _ _ _ _ q1 hp)
  exact ⟨B2, o2, S2, g2, s2, q1, q2, by rw [ho B2 hne]; exact q3⟩

theorem liesAt_bytes_off {P : Program} {e : TypeId} (hc : P.cellsOf e = 1) (count off n : Nat) (hn : off + n ≤ count) : liesAt P P.depth e count off e n = true := by
  have hd : P.depth = (2 * (P.types.size + Made.depth) + 1) + 1 := rfl
  rw [hd]
  simp only [liesAt, Bool.or_eq_true]
  left
  rw [hd]
  simp [rowAt, hc, hn, sameLayout, Nat.mod_one]
theorem run_unsafeString_at {P : Program} (w : World) (pt it ty e : TypeId) (hp : P.underlying pt = some (.pointer e)) (hc : P.cellsOf e = 1) (g off cells : Nat) (hsh : w.shape? g = some (e, cells)) (l : List UInt8) (h0 : l ≠ []) (hn : off + l.length ≤ cells) (h63 : l.length ≤ 9223372036854775807)
    (hcell : ∀ j x, l[j]? = some x → w.cell? ((⟨g, off, none⟩ : Addr).add j) = some (.int .u8 x.toNat)) :
    (Builtin.unsafeString_ #[pt, it] ty #[.pointer (some ⟨g, off, none⟩), .int .i64 l.length]).run P w = .ok (.string ⟨l.toArray⟩) (w.freeze ⟨g, off, none⟩ l.length) := by
  have hl : l.length ≠ 0 := by simpa using h0
  have hlb := run_loadBytes (P := P) w l ⟨g, off, none⟩ .empty hcell
  have hlies := liesAt_bytes_off (P := P) hc (cells / P.cellsOf e) off l.length (by rw [hc]; simpa using hn)
  have h63' : ¬ (9223372036854775807 : Int) < (l.length : Int) := by omega
  have hmax : IntKind.i64.max = 9223372036854775807 := rfl
  have hneg : ¬ (l.length : Int) < 0 := by omega
  show Sem.run P (asInt (.int .i64 l.length) >>= _) w = _
  simp [asInt, asIntOf, hmax, h63', hneg, hl, variablesAt, hsh, elemOf, run_underlying hp, hlies, hlb]

/-- Cells that are bytes. -/
def bytesOfCells : List Value → Option (List UInt8)
  | [] => some []
  | .int .u8 n :: vs => match bytesOfCells vs with
    | some l => if decide (n = ((UInt8.ofNat n.toNat).toNat : Int)) then some (UInt8.ofNat n.toNat :: l) else none
    | none => none
  | _ => none
theorem bytesOfCells_ok : ∀ {vs : List Value} {l : List UInt8}, bytesOfCells vs = some l → vs = l.map fun b => Value.int .u8 b.toNat
  | [], l, h => by cases h; rfl
  | v :: vs, l, h => by
    unfold bytesOfCells at h
    split at h
    · rename_i e; cases e
    · rename_i n vs' e
      cases e
      split at h
      · rename_i l' hl
        split at h
        · rename_i hd
          cases h
          have hd := of_decide_eq_true hd
          rw [List.map_cons, ← bytesOfCells_ok hl, ← hd]
        · cases h
      · cases h
    · cases h
/-- A text of bytes: they are not looked at again. -/
def aunsafeStr (P : Program) (st : St) (pt : TypeId) (x n : Value) : Option Out := match x, n with
  | .pointer p, .int .i64 k => if k = 0 then some (.val (.string .empty)) else match p with
    | none => none
    | some a => match P.underlying pt, st.heap.get a.block with
      | some (.pointer e), some (.cells _ e' _ _) => if e = e' then if Nat.beq (P.cellsOf e) 1 then (match k with
        | .ofNat m => (match aloadCells st a m with
          | some vs => (match bytesOfCells vs with
            | some l => if isMark ⟨⟨l⟩⟩ then none else if Nat.ble m 1099511627776 then some (.eff (.string ⟨⟨l⟩⟩) ⟨st.heap.put a.block none, st.next⟩) else none
            | none => none)
          | none => none)
        | _ => none) else none else none
      | _, _ => none
  | _, _ => none
theorem freeze_other (w : World) (B off n k : Nat) (h : k ≠ B) : (w.freeze ⟨B, off, none⟩ n).heap[k]? = w.heap[k]? := by
  unfold World.freeze
  split
  · rfl
  · simp only [Array.getElem?_modify]
    rw [if_neg (Ne.symm h)]
theorem freeze_size (w : World) (a : Addr) (n : Nat) : (w.freeze a n).heap.size = w.heap.size := by
  unfold World.freeze
  split
  · rfl
  · simp
theorem ok_unsafeStr {P : Program} {w0 : W0} {w : World} {φ : Pm} {st : St} (H : HR w0 φ st w) {pt it ty : TypeId} {x x' n n' : Value} (hx : VR φ x x') (hn : VR φ n n') {u : Out} (h : aunsafeStr P st pt x n = some u) :
    Out.ok P w0 φ st w (do pure (.value (← Builtin.unsafeString_ #[pt, it] ty #[x', n']))) u := by
  unfold aunsafeStr at h
  split at h
  · rename_i p k
    have hx2 : ∃ p', x' = .pointer p' := by
      cases hx with
      | leaf => exact ⟨_, rfl⟩
      | ptr => exact ⟨_, rfl⟩
    cases hn with
    | leaf hlf =>
    split at h
    · rename_i h0
      cases h
      subst h0
      obtain ⟨p', rfl⟩ := hx2
      exact val_of (run_unsafeString_none w pt it ty p') (.leaf rfl)
    · rename_i h0
      split at h
      · cases h
      · rename_i a
        split at h
        · rename_i e cs e' g s h1 h2
          split at h
          · rename_i he
            subst he
            split at h
            · rename_i hc1
              have hc1 := Nat.eq_of_beq_eq_true hc1
              split at h
              · rename_i m
                split at h
                · rename_i vs hvs
                  split at h
                  · rename_i l hl
                    split at h
                    · cases h
                    rename_i hnm
                    split at h
                    · rename_i hm63
                      have hm63 := Nat.le_of_ble_eq_true hm63
                      cases h
                      cases hx with
                      | leaf hl => simp [leafB] at hl
                      | @ptr _ a' ha =>
                        obtain ⟨vs', q1, q2, q3⟩ := aload_cells H ha hvs
                        have hvsl := bytesOfCells_ok hl
                        have hvv : vs' = l.map fun b => Value.int .u8 b.toNat := by
                          rw [← hvsl]
                          refine plain_list0 (d := 0) ?_ q2
                          rw [hvsl]
                          simp [plainB, leafB]
                        have hlm : l.length = m := by rw [← q1, hvv]; simp
                        obtain ⟨B, o, S, g', s', k1, k2, k3, k4, arr, k5, k6, k7, k8, k9⟩ := H.obj _ _ h2 ha.ne
                        unfold AR at ha
                        simp only [k1] at ha
                        obtain ⟨_, rfl⟩ := ha
                        have hlen : a.off + m ≤ cs.length := by
                          unfold aloadCells at hvs
                          rw [h2] at hvs
                          simp only at hvs
                          split at hvs
                          · rename_i hle; exact Nat.le_of_ble_eq_true hle
                          · cases hvs
                        have hr := run_unsafeString_at (P := P) w pt it ty e h1 hc1 B (o + a.off) S (by simp [World.shape?, k5, k6]) l (fun e2 => h0 (by rw [e2] at hlm; simp at hlm; rw [← hlm]; rfl)) (by omega) (by omega)
                          (fun j y hy => q3 j _ (by rw [hvv, List.getElem?_map, hy]; rfl))
                        rw [hlm] at hr
                        refine ⟨_, _, H.kill2 h2 k1 (freeze_size w ⟨B, o + a.off, none⟩ m) (fun k hk => freeze_other w B (o + a.off) m k hk) ?_ ?_ ?_, ⟨Nat.le_refl _, Le.dead k1, fun d hd hno => ?_⟩, .inl ⟨.string ⟨⟨l⟩⟩, by rw [Sem.run_bind]; erw [hr]; rfl, .leaf (by simp [leafB, hnm])⟩⟩
                        · unfold World.freeze; split <;> rfl
                        · unfold World.freeze; split <;> rfl
                        · unfold World.freeze; split <;> rfl
                        · have hne : d ≠ a.block := fun e => by subst e; rw [k1] at hno; cases hno
                          exact ⟨by rw [Pm.tell_other _ _ _ _ hne]; exact hno, by rw [Tr.get_put_eq, if_neg hne]⟩
                    · cases h
                  · cases h
                · cases h
              · cases h
            · cases h
          · cases h
        · cases h
  · cases h

/-! ### the room of a slice -/
def acap (P : Program) (st : St) (t : TypeId) (v : Value) : Option Value := match P.underlying t, v with
  | some (.array n _), _ => some (goInt n)
  | some (.slice _), .slice none _ c => some (goInt c)
  | some (.slice _), .slice (some a) _ c => match st.heap.get a.block with
    | some (.cells _ _ false _) => some (goInt c)
    | _ => none
  | _, _ => none
theorem run_acap {P : Program} {w0 : W0} {w : World} {φ : Pm} {st : St} (H : HR w0 φ st w) {t ty : TypeId} {v v' u : Value} (hv : VR φ v v') (h : acap P st t v = some u) :
    (Builtin.cap_ #[t] ty #[v']).run P w = .ok u w ∧ leafB u = true := by
  unfold acap at h
  split at h
  · rename_i n e hu
    cases h
    exact ⟨by simp [Builtin.cap_, run_underlying hu], rfl⟩
  · rename_i e l c hu
    cases h
    cases hv with
    | leaf => exact ⟨by simp [Builtin.cap_, run_underlying hu], rfl⟩
  · rename_i e a l c hu
    split at h
    · rename_i cs el s hb
      cases h
      cases hv with
      | leaf hl => simp [leafB] at hl
      | @slice _ a' _ _ c' ha hc =>
        obtain ⟨B, o, S, g', s', k1, k2, k3, _⟩ := H.obj _ _ hb ha.ne
        unfold CR at hc
        simp only [k1, k3, Bool.false_eq_true, if_false] at hc
        subst hc
        exact ⟨by simp [Builtin.cap_, run_underlying hu], rfl⟩
    · cases h
  · cases h
end Go.Ev
