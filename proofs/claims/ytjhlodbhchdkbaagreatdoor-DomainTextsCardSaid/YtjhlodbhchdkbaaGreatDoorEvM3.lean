/-
  copy, make, literals, maps, functions, assertions.
-/
/-
  Maps, ranges over strings, functions, assertions.
-/
/-
  Writing maps; ranges over strings; functions; assertions.
-/
import Derived.Test.YtjhlodbhchdkbaaGreatDoorEvM2
namespace Go.Ev
open Go Go.RowKit

theorem run_val {P : Program} {w w' : World} {s : Sem Value} {v : Value} (h : s.run P w = .ok v w') : (do pure (Next.value (← s)) : Sem Next).run P w = .ok (.value v) w' := by simp [h]

/-! ### copy -/
def acopy (P : Program) (st : St) (t : TypeId) (d x : Value) : Option Out :=
  match P.underlying t, d, x with
  | some (.slice e), .slice (some a) dl _, .slice (some b) xl _ => match sizeB P e with
    | some s => match aloadCells st b (Nat.min xl dl * s) with
      | some l => match aputCells st a l with
        | some st' => some (.eff (goInt (Nat.min xl dl)) st')
        | none => none
      | none => none
    | none => none
  | some (.slice e), .slice _ _ _, .slice none xl _ => match sizeB P e with
    | some _ => if Nat.beq xl 0 then some (.val (goInt 0)) else none
    | none => none
  | _, _, _ => none
theorem ok_copy {P : Program} {w0 : W0} {w : World} {φ : Pm} {st : St} (H : HR w0 φ st w) {t u ty : TypeId} {d d' x x' : Value} (hd : VR φ d d') (hx : VR φ x x') {r : Out} (h : acopy P st t d x = some r) :
    Out.ok P w0 φ st w (do pure (.value (← Builtin.copy_ #[t, u] ty #[d', x']))) r := by
  unfold acopy at h
  split at h
  · rename_i e a dl dc b xl xc ht
    split at h
    · rename_i s hs
      split at h
      · rename_i l hl
        split at h
        · rename_i st' hst
          cases h
          cases hd with
          | leaf hl => simp [leafB] at hl
          | slice ha _ => cases hx with
            | leaf hl => simp [leafB] at hl
            | @slice _ b' _ _ xc' hb _ =>
              obtain ⟨l', h1, h2, h3⟩ := aload_cells H hb hl
              obtain ⟨w', hr, h4, h5⟩ := aput_cells (P := P) H ha h2 hst
              have hf := run_firstCells_some (P := P) w s (Nat.min xl dl) b' xl xc' l' h1 h3
              refine ⟨φ, w', h4, h5, .inl ⟨goInt (Nat.min xl dl), ?_, .leaf rfl⟩⟩
              simp only [Builtin.copy_, Sem.run_bind, run_underlying ht, Result.andThen_ok, Builtin.lenOf, Sem.run_pure, run_size hs, hf, hr, List.getElem?_toArray, List.getElem?_cons_zero, List.getElem?_cons_succ]
        · cases h
      · cases h
    · cases h
  · rename_i ht
    split at h
    · rename_i s hs
      split at h
      · rename_i h0
        obtain rfl := Nat.eq_of_beq_eq_true h0
        cases h
        cases hx with
        | leaf =>
          have hd2 : ∃ b l c, d' = .slice b l c := by
            cases hd with
            | leaf => exact ⟨_, _, _, rfl⟩
            | slice => exact ⟨_, _, _, rfl⟩
          obtain ⟨b, l, c, rfl⟩ := hd2
          refine val_of ?_ (.leaf rfl)
          cases b <;> simp [Builtin.copy_, run_underlying ht, Builtin.lenOf, run_size hs, Builtin.firstCells, storeCells]
      · cases h
    · cases h
  · cases h

/-! ### make -/
def zrep (z : List Value) : Nat → List Value
  | 0 => []
  | n + 1 => z ++ zrep z n
theorem zrep_length (z : List Value) : ∀ n, (zrep z n).length = n * z.length
  | 0 => by simp [zrep]
  | n + 1 => by simp [zrep, zrep_length z n, Nat.add_mul]; omega
theorem zrep_get (z : List Value) (hz : 0 < z.length) : ∀ (n i : Nat), i < n * z.length → (zrep z n)[i]? = z[i % z.length]?
  | 0, i, h => by omega
  | n + 1, i, h => by
    simp only [zrep]
    rw [List.getElem?_append]
    split
    · rename_i hi; rw [Nat.mod_eq_of_lt hi]
    · rename_i hi
      have e : (n + 1) * z.length = n * z.length + z.length := Nat.succ_mul _ _
      rw [zrep_get z hz n (i - z.length) (by omega), Nat.mod_eq_sub_mod (a := i) (b := z.length) (by omega)]
theorem zrep_made (z : Array Value) (n : Nat) : ((Array.range (n * z.size)).map (z[· % z.size]!)).toList = zrep z.toList n := by
  by_cases hz : z.size = 0
  · have : z.toList = [] := by simpa using hz
    rw [hz, Nat.mul_zero, this]
    have h0 : ∀ n, zrep [] n = [] := fun n => by induction n with | zero => rfl | succ n ih => simp [zrep, ih]
    rw [h0]; simp
  · apply List.ext_getElem?
    intro i
    by_cases hi : i < n * z.size
    · rw [zrep_get z.toList (by simp; omega) n i (by simpa using hi)]
      have hm : i % z.size < z.size := Nat.mod_lt _ (by omega)
      simp [hi, hm]
    · rw [List.getElem?_eq_none (by simp; omega), List.getElem?_eq_none (by rw [zrep_length]; simp; omega)]
theorem zrep_refl {φ : Pm} {z : List Value} (h : LR φ z z) : ∀ n, LR φ (zrep z n) (zrep z n)
  | 0 => LR.nil
  | n + 1 => h.append (zrep_refl h n)

def amakeSlice (P : Program) (t : TypeId) (l c : Value) : Option Out :=
  match P.underlying t, l, c with
  | some (.slice e), .int _ l, .int _ c => match P.info? e with
    | some i => match i.zero with
      | some z => if plainB 3 z && Nat.beq z.cells.size i.size && decide (0 ≤ l) && decide (l ≤ c) && decide (c ≤ 1099511627776) && decide ((i.bytes : Int) * c ≤ 281474976710656) then
          some (.new (.cells (zrep z.cells.toList c.toNat) e false i.size) fun b => .slice (some ⟨b, 0, none⟩) l.toNat c.toNat)
        else none
      | none => none
    | none => none
  | _, _, _ => none
theorem ok_makeSlice {P : Program} {w0 : W0} {w : World} {φ : Pm} {st : St} {t : TypeId} {l l' c c' : Value} (hl : VR φ l l') (hc : VR φ c c') {r : Out} (h : amakeSlice P t l c = some r) :
    Out.ok P w0 φ st w (do pure (.value (← Instr.makeSlice t l' c'))) r := by
  unfold amakeSlice at h
  split at h
  · rename_i e kl n kc m ht
    split at h
    · rename_i i hi
      split at h
      · rename_i z hz
        split at h
        · rename_i hb
          simp only [Bool.and_eq_true, decide_eq_true_eq] at hb
          obtain ⟨⟨⟨⟨⟨b1, b2⟩, b3⟩, b4⟩, b5⟩, b6⟩ := hb
          have b2 := Nat.eq_of_beq_eq_true b2
          cases h
          cases hl with
          | leaf => cases hc with
            | leaf =>
              have hr := run_make (P := P) w t e i z ht hi hz kl kc n m b3 b4 b6 (by omega)
              refine ⟨_, _, _, m.toNat * i.size, false, i.size, run_val hr, rfl, rfl, rfl, rfl, ?_⟩
              intro φ' b hle hb
              have hcells : (madeCells z.cells (m.toNat * i.size)).toList = zrep z.cells.toList m.toNat := by
                unfold madeCells; rw [← b2]; exact zrep_made _ _
              have hlen : (zrep z.cells.toList m.toNat).length = m.toNat * i.size := by rw [zrep_length]; simp [b2]
              refine ⟨⟨rfl, rfl, _, rfl, size_madeCells _ _, by omega, fun _ => ⟨rfl, hlen⟩, ?_⟩, .slice ?_ ?_⟩
              · rw [List.drop_zero, hcells, List.take_length]
                exact zrep_refl (plain_refl 3 z b1).cells _
              · unfold AR; simp [hb]
              · unfold CR; simp [hb]
        · cases h
      · cases h
    · cases h
  · cases h

theorem ok_makeMap {P : Program} {w0 : W0} {w : World} {φ : Pm} {st : St} {t : TypeId} :
    Out.ok P w0 φ st w (do pure (.value (← Instr.makeMap t none))) (.new (.map [] 0) fun b => .map (some b)) := by
  refine ⟨.map #[] 0, .map (some w.heap.size), w.alloc (.map #[] 0), 0, false, 0, ?_, rfl, rfl, rfl, rfl, ?_⟩
  · simp [Instr.makeMap]
  · intro φ' b hle hb
    refine ⟨⟨#[], rfl, rfl, fun i e e' h => by simp at h⟩, .map ?_⟩
    unfold MR; simp [hb]

/-! ### literals -/
theorem cells_size {φ : Pm} {v v' : Value} (h : VR φ v v') : v'.cells.size = v.cells.size := by have := h.cells.1; simpa using this.symm
def PR (φ : Pm) (ps ps' : List (Nat × Value)) : Prop := ps.length = ps'.length ∧ ∀ (i : Nat) (p p' : Nat × Value), ps[i]? = some p → ps'[i]? = some p' → p.1 = p'.1 ∧ VR φ p.2 p'.2
theorem foldl_set {φ : Pm} (off : Nat) : ∀ (vs vs' : List Value) (k : Nat) (cs cs' : Array Value), LR φ vs vs' → LR φ cs.toList cs'.toList →
    LR φ ((vs.zipIdx k).foldl (fun cs (c, j) => cs.setIfInBounds (off + j) c) cs).toList ((vs'.zipIdx k).foldl (fun cs (c, j) => cs.setIfInBounds (off + j) c) cs').toList
  | [], [], _, _, _, _, h => h
  | [], _ :: _, _, _, _, h, _ => absurd h.1 (by simp)
  | _ :: _, [], _, _, _, h, _ => absurd h.1 (by simp)
  | v :: vs, v' :: vs', k, cs, cs', h, hc => by
    obtain ⟨h1, h2⟩ := h.cons_inv
    simp only [List.zipIdx_cons, List.foldl_cons]
    refine foldl_set off vs vs' (k + 1) _ _ h2 ?_
    rw [Array.toList_setIfInBounds, Array.toList_setIfInBounds]
    exact hc.set _ h1
theorem foldl_set_size (off : Nat) : ∀ (vs : List Value) (k : Nat) (cs : Array Value), ((vs.zipIdx k).foldl (fun cs (c, j) => cs.setIfInBounds (off + j) c) cs).size = cs.size
  | [], _, _ => rfl
  | v :: vs, k, cs => by simp only [List.zipIdx_cons, List.foldl_cons]; rw [foldl_set_size off vs]; simp
theorem arr_foldl (off : Nat) (vs : Array Value) (cs : Array Value) : vs.zipIdx.foldl (fun cs (c, j) => cs.setIfInBounds (off + j) c) cs = (vs.toList.zipIdx 0).foldl (fun cs (c, j) => cs.setIfInBounds (off + j) c) cs := by
  rw [← Array.foldl_toList]; simp
theorem fill_rel {φ : Pm} {place : Nat → Option (Nat × Nat)} : ∀ (ps ps' : List (Nat × Value)) (cs cs' : Array Value) (r : Array Value), PR φ ps ps' → LR φ cs.toList cs'.toList → Instr.fill place cs ps = some r →
    ∃ r', Instr.fill place cs' ps' = some r' ∧ LR φ r.toList r'.toList ∧ r.size = cs.size
  | [], [], cs, cs', r, _, hc, h => by simp only [Instr.fill] at h; cases h; exact ⟨cs', rfl, hc, rfl⟩
  | [], _ :: _, _, _, _, h, _, _ => absurd h.1 (by simp)
  | _ :: _, [], _, _, _, h, _, _ => absurd h.1 (by simp)
  | (i, v) :: ps, (i', v') :: ps', cs, cs', r, hp, hc, h => by
    obtain ⟨h1, h2⟩ := hp.2 0 (i, v) (i', v') rfl rfl
    simp only at h1 h2
    subst h1
    have hp2 : PR φ ps ps' := ⟨by have := hp.1; simpa using this, fun j p p' a b => hp.2 (j + 1) p p' (by simpa using a) (by simpa using b)⟩
    have hcs : cs'.size = cs.size := by have := hc.1; simpa using this.symm
    simp only [Instr.fill] at h ⊢
    cases hpl : place i with
    | none => rw [hpl] at h; simp at h
    | some q =>
      obtain ⟨off, size⟩ := q
      rw [hpl] at h
      simp only at h ⊢
      rw [cells_size h2, hcs]
      split at h
      · cases h
      · rename_i hb
        rw [if_neg hb]
        rw [arr_foldl] at h ⊢
        obtain ⟨r', k1, k2, k3⟩ := fill_rel ps ps' _ _ r hp2 (foldl_set off _ _ 0 _ _ h2.cells hc) h
        exact ⟨r', k1, k2, by rw [k3, foldl_set_size]⟩

def zeroPlain (P : Program) (t : TypeId) : Bool := match P.info? t with
  | some i => match i.zero with
    | some z => plainB 3 z
    | none => false
  | none => false
def abuild (P : Program) (t : TypeId) (ps : List (Nat × Value)) : Option Value :=
  if zeroPlain P t then match P.built t ps with
    | some r => some (.agg r)
    | none => none
  else none
theorem ok_build {P : Program} {w0 : W0} {w : World} {φ : Pm} {st : St} {t : TypeId} {ps : List (Nat × Value)} {ps' : Array (Nat × Value)} (hp : PR φ ps ps'.toList) {v : Value} (h : abuild P t ps = some v) :
    Out.ok P w0 φ st w (do pure (.value (← Instr.build t ps'))) (.val v) := by
  unfold abuild at h
  split at h
  · rename_i hzp
    unfold zeroPlain at hzp
    split at h
    · rename_i r hr
      cases h
      have key : ∃ r', P.built t ps'.toList = some r' ∧ LR φ r.toList r'.toList := by
        unfold Program.built at hr ⊢
        cases hi : P.info? t with
        | none => rw [hi] at hzp; cases hzp
        | some it =>
          rw [hi] at hzp hr
          simp only at hzp
          cases hz : it.zero with
          | none => rw [hz] at hzp; cases hzp
          | some z =>
            rw [hz] at hzp
            simp only at hzp
            have hcz := (plain_refl (φ := φ) 3 z hzp).cells
            cases hu : P.underlying t with
            | none => rw [hu] at hr; cases hr
            | some d =>
              rw [hu] at hr
              cases d <;> simp only [hz, reduceCtorEq] at hr ⊢
              case array n e =>
                cases hie : P.info? e with
                | none => rw [hie] at hr; cases hr
                | some ie =>
                  rw [hie] at hr
                  obtain ⟨r', k1, k2, _⟩ := fill_rel _ _ _ _ _ hp hcz hr
                  exact ⟨r', k1, k2⟩
              case struct fields =>
                cases hpl : fields.toList.mapM (fun f => (P.info? f.type).map fun i => (f.offset, i.size)) with
                | none => rw [hpl] at hr; cases hr
                | some places =>
                  rw [hpl] at hr
                  obtain ⟨r', k1, k2, _⟩ := fill_rel _ _ _ _ _ hp hcz hr
                  exact ⟨r', k1, k2⟩
      obtain ⟨r', k1, k2⟩ := key
      obtain ⟨r⟩ := r
      obtain ⟨r'⟩ := r'
      exact val_of (run_build w t ps' _ k1) (VR.agg_iff.2 k2)
    · cases h
  · cases h

def abuildSlice (P : Program) (t : TypeId) (len : Nat) (ps : List (Nat × Value)) : Option Out :=
  match P.underlying t with
  | some (.slice e) => match P.info? e with
    | some i => match i.zero with
      | some z => if plainB 3 z && Nat.beq z.cells.size i.size && Nat.ble (len * i.size) 16777216 then
          match Instr.fill (fun k => some (k * i.size, i.size)) ⟨zrep z.cells.toList len⟩ ps with
          | some r => some (.new (.cells r.toList e false i.size) fun b => .slice (some ⟨b, 0, none⟩) len len)
          | none => none
        else none
      | none => none
    | none => none
  | _ => none
theorem ok_buildSlice {P : Program} {w0 : W0} {w : World} {φ : Pm} {st : St} {t : TypeId} {len : Nat} {ps : List (Nat × Value)} {ps' : Array (Nat × Value)} (hp : PR φ ps ps'.toList) {u : Out} (h : abuildSlice P t len ps = some u) :
    Out.ok P w0 φ st w (do pure (.value (← Instr.buildSlice t len ps'))) u := by
  unfold abuildSlice at h
  split at h
  · rename_i e hu
    split at h
    · rename_i i hi
      split at h
      · rename_i z hz
        split at h
        · rename_i hb
          simp only [Bool.and_eq_true] at hb
          obtain ⟨⟨b1, b2⟩, b3⟩ := hb
          have b2 := Nat.eq_of_beq_eq_true b2
          have b3 := Nat.le_of_ble_eq_true b3
          split at h
          · rename_i r hr
            cases h
            have hcz : LR φ (zrep z.cells.toList len) (zrep z.cells.toList len) := zrep_refl (plain_refl 3 z b1).cells _
            obtain ⟨r', k1, k2, k3⟩ := fill_rel _ _ _ ⟨zrep z.cells.toList len⟩ _ hp hcz hr
            have hlen : r.size = len * i.size := by rw [k3]; simp [zrep_length, b2]
            have hlen' : r'.size = len * i.size := by rw [← hlen]; have := k2.1; simpa using this.symm
            have hmade : ((Array.range (len * i.size)).map (z.cells[· % z.cells.size]!)) = ⟨zrep z.cells.toList len⟩ := by
              apply Array.ext'
              rw [← b2]
              exact zrep_made _ _
            have hrun : (Instr.buildSlice t len ps').run P w = .ok (.slice (some ⟨w.heap.size, 0, none⟩) len len) (w.alloc (.cells r' e)) := by
              have hn : ¬ (16777216 < len * i.size) := by omega
              by_cases h0 : len * i.size = 0
              · have hm0 : ((Array.range 0).map ((#[] : Array Value)[· % (#[] : Array Value).size]!)) = ⟨zrep z.cells.toList len⟩ := by
                  rw [← hmade, h0]; simp [Array.range_zero']
                simp only [Instr.buildSlice, Sem.run_bind, run_underlying hu, Result.andThen_ok, run_size (show sizeB P e = some i.size by simp [sizeB, hi]), h0, gt_iff_lt, Nat.not_lt_zero, if_true, Sem.run_pure, Sem.run_ite]
                rw [if_neg (fun h => h), hm0, k1]
                simp [newRow]
              · simp only [Instr.buildSlice, Sem.run_bind, run_underlying hu, Result.andThen_ok, run_size (show sizeB P e = some i.size by simp [sizeB, hi]), gt_iff_lt, Sem.run_ite, h0, if_false]
                rw [if_neg (by omega)]
                simp only [zeroValue, typeInfo, Sem.run_bind, run_program, Result.andThen_ok, hi, hz, Sem.run_pure]
                rw [hmade, k1]
                simp [newRow]
            refine ⟨.cells r' e, _, _, len * i.size, false, i.size, run_val hrun, rfl, rfl, rfl, rfl, ?_⟩
            intro φ' b hle hb
            refine ⟨⟨rfl, rfl, r', rfl, hlen', by simp; omega, fun _ => ⟨rfl, by simpa using hlen⟩, ?_⟩, .slice ?_ ?_⟩
            · have hll : r.toList.length = r'.toList.length := k2.1
              rw [List.drop_zero, hll, List.take_length]
              exact k2.mono hle
            · unfold AR; simp [hb]
            · unfold CR; simp [hb]
          · cases h
        · cases h
      · cases h
    · cases h
  · cases h
end Go.Ev

namespace Go.Ev
open Go Go.RowKit

/-! ### keys -/
def keyEq : Value → Value → Option Bool
  | .int k a, .int k' b => if k = k' then some (a == b) else none
  | .string a, .string b => if isMark b then none else some (a.data.toList == b.data.toList)
  | .bool a, .bool b => some (a == b)
  | _, _ => none
def kindFits : TypeDesc → Value → Bool
  | .int _, .int _ _ => true
  | .string, .string _ => true
  | .bool, .bool _ => true
  | _, _ => false
def afindNow (k : Value) : List MapEntry → Nat → Option (Option (Nat × Value))
  | [], _ => some none
  | e :: es, i => match keyEq k e.key with
    | some true => some (some (i, e.val))
    | some false => afindNow k es (i + 1)
    | none => none
def afindAsk (P : Program) (kt : TypeId) (k : Value) : List MapEntry → Nat → Option (Option (Nat × Value))
  | [], _ => some none
  | e :: es, i => if plainB 4 e.key then match prun P (Op.equal kt k e.key) with
      | some true => some (some (i, e.val))
      | some false => afindAsk P kt k es (i + 1)
      | none => none
    else none
def afind (P : Program) (kt : TypeId) (k : Value) (es : List MapEntry) : Option (Option (Nat × Value)) :=
  match P.underlying kt with
  | some d => if kindFits d k then afindNow k es 0 else match d with
    | .int _ | .string | .bool => none
    | _ => afindAsk P kt k es 0
  | none => none

def EsR (φ : Pm) (es : List MapEntry) (es' : List MapEntry) : Prop := es.length = es'.length ∧ ∀ (i : Nat) (e e' : MapEntry), es[i]? = some e → es'[i]? = some e' → ER φ e e'
theorem EsR.cons_inv {φ : Pm} {e e' : MapEntry} {es es' : List MapEntry} (h : EsR φ (e :: es) (e' :: es')) : ER φ e e' ∧ EsR φ es es' :=
  ⟨h.2 0 e e' rfl rfl, by have := h.1; simpa using this, fun i x y a b => h.2 (i + 1) x y (by simpa using a) (by simpa using b)⟩
def FR (φ : Pm) (r r' : Option (Nat × Value)) : Prop := match r, r' with
  | none, none => True
  | some (i, v), some (i', v') => i' = i ∧ VR φ v v'
  | _, _ => False

theorem keyEq_ok {φ : Pm} {d : TypeDesc} {k x x' : Value} (hd : kindFits d k = true) (hx : VR φ x x') {b : Bool} (h : keyEq k x = some b) : Instr.sameNow d k x' = some b := by
  unfold keyEq at h
  split at h
  · rename_i kk a kk' c
    split at h
    · rename_i e
      cases h
      cases hx with
      | leaf => cases d <;> simp [kindFits] at hd; simp [Instr.sameNow, e]
    · cases h
  · rename_i a c
    split at h
    · cases h
    rename_i hnm
    cases h
    cases hx with
    | opq hm => exact absurd hm hnm
    | leaf => cases d <;> simp [kindFits] at hd; simp [Instr.sameNow, beq_toListBytes, ByteArray.toList_eq]
  · rename_i a c
    cases h
    cases hx with
    | leaf => cases d <;> simp [kindFits] at hd; simp [Instr.sameNow]
  · cases h
theorem afindNow_ok {φ : Pm} {d : TypeDesc} {k : Value} (hd : kindFits d k = true) : ∀ (es es' : List MapEntry) (i : Nat) (r : Option (Nat × Value)), EsR φ es es' → afindNow k es i = some r →
    ∃ r', Instr.findNow d k es' i = some r' ∧ FR φ r r'
  | [], [], i, r, _, h => by simp only [afindNow] at h; cases h; exact ⟨none, rfl, trivial⟩
  | [], _ :: _, _, _, h, _ => absurd h.1 (by simp)
  | _ :: _, [], _, _, h, _ => absurd h.1 (by simp)
  | e :: es, e' :: es', i, r, he, h => by
    obtain ⟨⟨h1, h2, h3⟩, h4⟩ := he.cons_inv
    simp only [afindNow] at h
    split at h
    · rename_i hk
      cases h
      exact ⟨some (i, e'.val), by simp only [Instr.findNow, keyEq_ok hd h1 hk], rfl, h2⟩
    · rename_i hk
      obtain ⟨r', k1, k2⟩ := afindNow_ok hd es es' (i + 1) r h4 h
      exact ⟨r', by simp only [Instr.findNow, keyEq_ok hd h1 hk]; exact k1, k2⟩
    · cases h
theorem afindAsk_ok {P : Program} {w : World} {φ : Pm} {kt : TypeId} {k : Value} : ∀ (es es' : List MapEntry) (i : Nat) (r : Option (Nat × Value)), EsR φ es es' → afindAsk P kt k es i = some r →
    ∃ r', (Instr.findAsking kt k es' i).run P w = .ok r' w ∧ FR φ r r'
  | [], [], i, r, _, h => by simp only [afindAsk] at h; cases h; exact ⟨none, rfl, trivial⟩
  | [], _ :: _, _, _, h, _ => absurd h.1 (by simp)
  | _ :: _, [], _, _, h, _ => absurd h.1 (by simp)
  | e :: es, e' :: es', i, r, he, h => by
    obtain ⟨⟨h1, h2, h3⟩, h4⟩ := he.cons_inv
    simp only [afindAsk] at h
    split at h
    · rename_i hp
      have hk := plain_eq 4 _ _ hp h1
      split at h
      · rename_i hq
        cases h
        have := prun_run _ _ hq w
        exact ⟨some (i, e'.val), by simp only [Instr.findAsking, Sem.run_bind, hk, this, Result.andThen_ok, if_true, Sem.run_pure], rfl, h2⟩
      · rename_i hq
        have := prun_run _ _ hq w
        obtain ⟨r', k1, k2⟩ := afindAsk_ok es es' (i + 1) r h4 h
        exact ⟨r', by simp only [Instr.findAsking, Sem.run_bind, hk, this, Result.andThen_ok, Bool.false_eq_true, if_false]; exact k1, k2⟩
      · cases h
    · cases h
theorem run_afind {P : Program} {w : World} {φ : Pm} {kt : TypeId} {k : Value} {es es' : List MapEntry} (he : EsR φ es es') {r : Option (Nat × Value)} (h : afind P kt k es = some r) :
    ∃ r', (Instr.findKey kt k es').run P w = .ok r' w ∧ FR φ r r' := by
  unfold afind at h
  split at h
  · rename_i d hd
    split at h
    · rename_i hk
      obtain ⟨r', k1, k2⟩ := afindNow_ok hk es es' 0 r he h
      exact ⟨r', by simp only [Instr.findKey, Sem.run_bind, run_underlying hd, Result.andThen_ok, k1, Sem.run_pure], k2⟩
    · have key : (∀ k, d ≠ .int k) → d ≠ .string → d ≠ .bool → afindAsk P kt k es 0 = some r → ∃ r', (Instr.findKey kt k es').run P w = .ok r' w ∧ FR φ r r' := by
        intro n1 n2 n3 h
        cases es' with
        | nil =>
          cases es with
          | nil =>
            simp only [afindAsk] at h
            cases h
            exact ⟨none, by simp [Instr.findKey, run_underlying hd, Instr.findNow], trivial⟩
          | cons e es => exact absurd he.1 (by simp)
        | cons e' es' =>
          obtain ⟨r', k1, k2⟩ := afindAsk_ok (w := w) es (e' :: es') 0 r he h
          have hn : Instr.findNow d k (e' :: es') 0 = none := by
            simp only [Instr.findNow]
            have : Instr.sameNow d k e'.key = none := by
              cases d <;> first | rfl | exact absurd rfl (n1 _) | exact absurd rfl n2 | exact absurd rfl n3
            rw [this]
          exact ⟨r', by simp only [Instr.findKey, Sem.run_bind, run_underlying hd, Result.andThen_ok, hn]; exact k1, k2⟩
      split at h
      · cases h
      · cases h
      · cases h
      · rename_i n1 n2 n3
        exact key n1 n2 n3 h
  · cases h

def aentries (st : St) (m : Value) : Option (List MapEntry) := match m with
  | .map none => some []
  | .map (some r) => match st.heap.get r with
    | some (.map es _) => some es
    | _ => none
  | _ => none
theorem run_getMap {P : Program} {w : World} {B : Nat} {es : Array MapEntry} {clock : Nat} (h : w.heap[B]? = some (.map es clock)) : (getObj B).run P w = .ok (.map es clock) w := by
  simp [getObj, Sem.run, h]
theorem aentries_ok {w0 : W0} {w : World} {φ : Pm} {st : St} (H : HR w0 φ st w) {m m' : Value} (hm : VR φ m m') {es : List MapEntry} (h : aentries st m = some es) :
    ∃ es' : Array MapEntry, EsR φ es es'.toList ∧ ((m' = .map none ∧ es' = #[]) ∨ ∃ B clock, m' = .map (some B) ∧ w.heap[B]? = some (.map es' clock)) := by
  unfold aentries at h
  split at h
  · cases h
    cases hm with
    | leaf => exact ⟨#[], ⟨rfl, fun i e e' h => by simp at h⟩, .inl ⟨rfl, rfl⟩⟩
  · rename_i r
    split at h
    · rename_i es0 clock hr
      cases h
      cases hm with
      | leaf hl => simp [leafB] at hl
      | map hmr =>
        obtain ⟨B, o, S, g, s, k1, k2, es', k3, k4, k5⟩ := H.obj _ _ hr hmr.ne
        unfold MR at hmr
        simp only [k1] at hmr
        subst hmr
        exact ⟨es', ⟨by simpa using k4, fun i e e' a b => k5 i e e' a (by simpa using b)⟩, .inr ⟨_, clock, rfl, k3⟩⟩
    · cases h
  · cases h
def acheck (P : Program) (empty : Bool) (kt : TypeId) (k : Value) : Bool := plainB 4 k && (match prun P (Instr.checkKey empty 10000 kt k) with | some _ => true | none => false)
theorem acheck_ok {P : Program} {φ : Pm} {empty : Bool} {kt : TypeId} {k k' : Value} (hk : VR φ k k') (h : acheck P empty kt k = true) (w : World) : k' = k ∧ (Instr.checkKey empty 10000 kt k).run P w = .ok () w := by
  unfold acheck at h
  simp only [Bool.and_eq_true] at h
  obtain ⟨h1, h2⟩ := h
  split at h2
  · rename_i u hu; exact ⟨plain_eq 4 _ _ h1 hk, prun_run _ _ hu w⟩
  · cases h2
/-! ### keys that are pointers -/
def afindPtr (P : Program) (st : St) (kt : TypeId) (k : Value) : List MapEntry → Nat → Option (Option (Nat × Value))
  | [], _ => some none
  | e :: es, i => match aeq P st kt k e.key with
    | some true => some (some (i, e.val))
    | some false => afindPtr P st kt k es (i + 1)
    | none => none
theorem afindPtr_ok {P : Program} {w0 : W0} {w : World} {φ : Pm} {st : St} (H : HR w0 φ st w) {kt : TypeId} {k k' : Value} (hk : VR φ k k') : ∀ (es es' : List MapEntry) (i : Nat) (r : Option (Nat × Value)), EsR φ es es' → afindPtr P st kt k es i = some r →
    ∃ r', (Instr.findAsking kt k' es' i).run P w = .ok r' w ∧ FR φ r r'
  | [], [], i, r, _, h => by simp only [afindPtr] at h; cases h; exact ⟨none, rfl, trivial⟩
  | [], _ :: _, _, _, h, _ => absurd h.1 (by simp)
  | _ :: _, [], _, _, h, _ => absurd h.1 (by simp)
  | e :: es, e' :: es', i, r, he, h => by
    obtain ⟨⟨h1, h2, h3⟩, h4⟩ := he.cons_inv
    simp only [afindPtr] at h
    split at h
    · rename_i hq
      cases h
      have : (Op.equal kt k' e'.key).run P w = .ok true w := (run_aeq H hk h1 hq).1 9999
      exact ⟨some (i, e'.val), by simp only [Instr.findAsking, Sem.run_bind, this, Result.andThen_ok, if_true, Sem.run_pure], rfl, h2⟩
    · rename_i hq
      have : (Op.equal kt k' e'.key).run P w = .ok false w := (run_aeq H hk h1 hq).1 9999
      obtain ⟨r', k1, k2⟩ := afindPtr_ok H hk es es' (i + 1) r h4 h
      exact ⟨r', by simp only [Instr.findAsking, Sem.run_bind, this, Result.andThen_ok, Bool.false_eq_true, if_false]; exact k1, k2⟩
    · cases h
theorem check_ptr {P : Program} {kt e : TypeId} (hu : P.underlying kt = some (.pointer e)) (empty : Bool) (n : Nat) (k : Value) (w : World) : (Instr.checkKey empty (n + 1) kt k).run P w = .ok () w := by
  simp only [Instr.checkKey, Sem.run_bind, run_underlying hu, Result.andThen_ok, Sem.run_pure]
def afindK (P : Program) (st : St) (empty : Bool) (kt : TypeId) (k : Value) (es : List MapEntry) : Option (Option (Nat × Value)) := match P.underlying kt with
  | some (.pointer _) => afindPtr P st kt k es 0
  | _ => if acheck P empty kt k then afind P kt k es else none
theorem run_afindK {P : Program} {w0 : W0} {w : World} {φ : Pm} {st : St} (H : HR w0 φ st w) {empty : Bool} {kt : TypeId} {k k' : Value} (hk : VR φ k k') {es es' : List MapEntry} (he : EsR φ es es') {r : Option (Nat × Value)} (h : afindK P st empty kt k es = some r) :
    (Instr.checkKey empty 10000 kt k').run P w = .ok () w ∧ ∃ r', (Instr.findKey kt k' es').run P w = .ok r' w ∧ FR φ r r' := by
  unfold afindK at h
  split at h
  · rename_i e hu
    obtain ⟨r', k1, k2⟩ := afindPtr_ok H hk es es' 0 r he h
    refine ⟨?_, r', ?_, k2⟩
    · exact check_ptr hu empty 9999 k' w
    · cases es' with
      | nil =>
        simp only [Instr.findAsking, Sem.run_pure, Result.ok.injEq, and_true] at k1
        rw [← k1]
        simp [Instr.findKey, run_underlying hu, Instr.findNow]
      | cons e' es' =>
        simp only [Instr.findKey, Sem.run_bind, run_underlying hu, Result.andThen_ok, Instr.findNow, Instr.sameNow]
        exact k1
  · split at h
    · rename_i hc
      obtain ⟨hk', hcr⟩ := acheck_ok hk hc w
      subst hk'
      exact ⟨hcr, run_afind he h⟩
    · cases h
/-- A key in its place: the same one. -/
def staysB (st : St) (e k : Value) : Bool := (plainB 4 e && plainB 4 k && Instr.sameBits 10000 e k) || (match e, k with
  | .pointer (some a), .pointer (some b) => addrEq a b && (match st.heap.get a.block with | some _ => true | none => false)
  | _, _ => false)
theorem stays_ok {w0 : W0} {w : World} {φ : Pm} {st : St} (H : HR w0 φ st w) {e e' k k' : Value} (he : VR φ e e') (hk : VR φ k k') (h : staysB st e k = true) : Instr.sameBits 10000 e' k' = true := by
  unfold staysB at h
  rw [Bool.or_eq_true] at h
  rcases h with h | h
  · simp only [Bool.and_eq_true] at h
    rw [plain_eq 4 _ _ h.1.1 he, plain_eq 4 _ _ h.1.2 hk]
    exact h.2
  · split at h
    · rename_i a b
      simp only [Bool.and_eq_true] at h
      obtain ⟨h1, h2⟩ := h
      obtain rfl := addr_eq h1
      split at h2
      · rename_i ob hob
        cases he with
        | leaf hl => simp [leafB] at hl
        | ptr ha => cases hk with
          | leaf hl => simp [leafB] at hl
          | ptr hb =>
            obtain ⟨B, o, S, g, s, k1, _⟩ := H.obj _ _ hob ha.ne
            unfold AR at ha hb
            simp only [k1] at ha hb
            rw [ha.2, hb.2]
            simp [Instr.sameBits]
      · cases h2
    · cases h
def alookup (P : Program) (st : St) (t : TypeId) (m k : Value) (ok : Bool) : Option Value :=
  match P.underlying t with
  | some (.map kt et) => match aentries st m, zeroB P et with
    | some es, some z => match afindK P st es.isEmpty kt k es with
        | some (some (_, v)) => some (if ok then .tuple ⟨[v, .bool true]⟩ else v)
        | some none => some (if ok then .tuple ⟨[z, .bool false]⟩ else z)
        | none => none
    | _, _ => none
  | _ => none
theorem VR.pair {φ : Pm} {v v' u u' : Value} (h : VR φ v v') (k : VR φ u u') : VR φ (.tuple ⟨[v, u]⟩) (.tuple ⟨[v', u']⟩) := VR.tuple_iff.2 (LR.cons h (LR.cons k LR.nil))
theorem ok_lookup {P : Program} {w0 : W0} {w : World} {φ : Pm} {st : St} (H : HR w0 φ st w) {t : TypeId} {m m' k k' : Value} {ok : Bool} (hm : VR φ m m') (hk : VR φ k k') {v : Value} (h : alookup P st t m k ok = some v) :
    Out.ok P w0 φ st w (do pure (.value (← Instr.lookup t m' k' ok))) (.val v) := by
  unfold alookup at h
  split at h
  · rename_i kt et hu
    split at h
    · rename_i es z he hz
      · obtain ⟨hzr, hzp⟩ := run_zero hz w
        obtain ⟨es', he1, he2⟩ := aentries_ok H hm he
        have hemp : es'.isEmpty = es.isEmpty := by
          have h1 : es.length = es'.size := by simpa using he1.1
          rw [Bool.eq_iff_iff, Array.isEmpty_iff_size_eq_zero, List.isEmpty_iff, ← List.length_eq_zero_iff, h1]
        have fin : ∀ (r' : Option (Nat × Value)), (Instr.checkKey es.isEmpty 10000 kt k').run P w = .ok () w → (Instr.findKey kt k' es'.toList).run P w = .ok r' w →
            (Instr.lookup t m' k' ok).run P w = .ok (match r' with | some (_, v) => (if ok then .tuple #[v, .bool true] else v) | none => (if ok then .tuple #[z, .bool false] else z)) w := by
          intro r' hcr hf
          rcases he2 with ⟨rfl, rfl⟩ | ⟨B, clock, rfl, hB⟩
          · have hcr' := hcr
            rw [← hemp] at hcr'
            cases r' with
            | none => cases ok <;> simp [Instr.lookup, run_underlying hu] <;> simp_all
            | some p => cases ok <;> simp [Instr.lookup, run_underlying hu] <;> simp_all
          · have hcr' := hcr
            rw [← hemp] at hcr'
            cases r' with
            | none => cases ok <;> simp [Instr.lookup, run_underlying hu, run_getMap hB, hcr', hf, hzr]
            | some p => cases ok <;> simp [Instr.lookup, run_underlying hu, run_getMap hB, hcr', hf]
        split at h
        · rename_i i v0 hf
          cases h
          obtain ⟨f0, r', f1, f2⟩ := run_afindK H hk he1 hf
          match r', f2, fin r' f0 f1 with
          | some (i', v'), ⟨_, f2⟩, hr =>
            refine val_of hr ?_
            cases ok with
            | true => exact VR.pair f2 (.leaf rfl)
            | false => exact f2
        · rename_i hf
          cases h
          obtain ⟨f0, r', f1, f2⟩ := run_afindK H hk he1 hf
          match r', f2, fin r' f0 f1 with
          | none, _, hr =>
            refine val_of hr ?_
            cases ok with
            | true => exact VR.pair (plain_refl 3 z hzp) (.leaf rfl)
            | false => exact plain_refl 3 z hzp
        · cases h
    · cases h
  · cases h
end Go.Ev

namespace Go.Ev
open Go Go.RowKit

theorem run_setObj {P : Program} {w : World} {B : Nat} {o o' : Obj} (h : w.heap[B]? = some o) (hc : ∀ a b c, o ≠ .cells a b c) : (setObj B o').run P w = .ok () { w with heap := w.heap.setIfInBounds B o' } := by
  cases o <;> first | exact absurd rfl (hc _ _ _) | simp [setObj, Sem.run, h]
theorem set_heap (w : World) (B : Nat) (o o' : Obj) (h : w.heap[B]? = some o) : ({ w with heap := w.heap.setIfInBounds B o' } : World).heap[B]? = some o' := by
  have hlt : B < w.heap.size := (Array.getElem?_eq_some_iff.1 h).1
  simp [hlt]
theorem set_other (w : World) (B k : Nat) (o' : Obj) (h : k ≠ B) : ({ w with heap := w.heap.setIfInBounds B o' } : World).heap[k]? = w.heap[k]? := by
  show (w.heap.setIfInBounds B o')[k]? = _
  rw [Array.getElem?_setIfInBounds_ne (Ne.symm h)]

/-- A map turned where it lies. -/
theorem HR.turnMap {w0 : W0} {w : World} {φ : Pm} {st : St} (H : HR w0 φ st w) {r : Nat} {es : List MapEntry} {clock : Nat} (hr : st.heap.get r = some (.map es clock)) {B : Nat} (hB : MR φ r B)
    {fs : List MapEntry} {fs' : Array MapEntry} {c : Nat} (hf : EsR φ fs fs'.toList) :
    HR w0 φ { st with heap := st.heap.put r (some (.map fs c)) } { w with heap := w.heap.setIfInBounds B (.map fs' c) } ∧ Kept st φ { st with heap := st.heap.put r (some (.map fs c)) } φ := by
  obtain ⟨B', o, S, g, s, k1, k2, es', k3, k4, k5⟩ := H.obj _ _ hr hB.ne
  unfold MR at hB
  simp only [k1] at hB
  subst hB
  refine ⟨H.turn hr rfl k1 (set_heap w _ _ _ k3) (by simp) (fun k hk => set_other w _ k _ hk) rfl rfl rfl ⟨fs', rfl, by simpa using hf.1, fun i e e' a b => hf.2 i e e' a (by simpa using b)⟩,
    Kept.put k1 _⟩

theorem EsR.append1 {φ : Pm} : ∀ {es es' : List MapEntry} {e e' : MapEntry}, EsR φ es es' → ER φ e e' → EsR φ (es ++ [e]) (es' ++ [e'])
  | [], [], e, e', _, k => ⟨rfl, fun i x y a b => by cases i with
    | zero => simp at a b; subst a; subst b; exact k
    | succ i => simp at a⟩
  | [], _ :: _, _, _, h, _ => absurd h.1 (by simp)
  | _ :: _, [], _, _, h, _ => absurd h.1 (by simp)
  | x :: es, x' :: es', e, e', h, k => by
    obtain ⟨h1, h2⟩ := h.cons_inv
    have := h2.append1 k
    refine ⟨by have := this.1; simp at this ⊢; exact this, fun i a b ha hb => ?_⟩
    cases i with
    | zero => simp at ha hb; subst ha; subst hb; exact h1
    | succ i => exact this.2 i a b (by simpa using ha) (by simpa using hb)
theorem EsR.set {φ : Pm} {es es' : List MapEntry} (h : EsR φ es es') (i : Nat) {e e' : MapEntry} (k : ER φ e e') : EsR φ (es.set i e) (es'.set i e') :=
  ⟨by simp [h.1], fun j x y a b => by
    rw [List.getElem?_set] at a b
    by_cases e : i = j
    · subst e
      by_cases hn : i < es.length
      · have hn' : i < es'.length := by rw [← h.1]; exact hn
        simp only [hn, hn', if_true] at a b
        cases a; cases b; exact k
      · simp [hn] at a
    · simp only [e, if_false] at a b; exact h.2 j x y a b⟩
theorem EsR.erase {φ : Pm} : ∀ {es es' : List MapEntry} (_ : EsR φ es es') (i : Nat), EsR φ (es.eraseIdx i) (es'.eraseIdx i)
  | [], [], h, _ => h
  | [], _ :: _, h, _ => absurd h.1 (by simp)
  | _ :: _, [], h, _ => absurd h.1 (by simp)
  | x :: es, x' :: es', h, 0 => by simpa using h.cons_inv.2
  | x :: es, x' :: es', h, i + 1 => by
    obtain ⟨h1, h2⟩ := h.cons_inv
    have := h2.erase i
    refine ⟨by have := this.1; simp at this ⊢; exact this, fun j a b ha hb => ?_⟩
    cases j with
    | zero => simp at ha hb; subst ha; subst hb; exact h1
    | succ j => exact this.2 j a b (by simpa using ha) (by simpa using hb)

def aupdate (P : Program) (st : St) (t : TypeId) (m k v : Value) : Option St :=
  match P.underlying t, m with
  | some (.map kt _), .map (some r) => match st.heap.get r with
    | some (.map es clock) => match afindK P st false kt k es with
        | some (some (i, _)) => match es[i]? with
          | some e => if staysB st e.key k then some { st with heap := st.heap.put r (some (.map (es.set i { e with key := k, val := v }) clock)) } else none
          | none => none
        | some none => some { st with heap := st.heap.put r (some (.map (es ++ [{ key := k, val := v, born := clock }]) (clock + 1))) }
        | none => none
    | _ => none
  | _, _ => none
theorem modify_set {α : Type} (xs : Array α) (i : Nat) (f : α → α) (x : α) (h : xs[i]? = some x) : (xs.modify i f).toList = xs.toList.set i (f x) := by
  apply List.ext_getElem?
  intro j
  have hlt : i < xs.size := (Array.getElem?_eq_some_iff.1 h).1
  rw [Array.getElem?_toList, Array.getElem?_modify, List.getElem?_set]
  by_cases e : i = j
  · subst e
    have hx : xs[i] = x := (Array.getElem?_eq_some_iff.1 h).2
    simp [hlt, hx]
  · simp [e]
theorem ok_update {P : Program} {w0 : W0} {w : World} {φ : Pm} {st st' : St} (H : HR w0 φ st w) {t : TypeId} {m m' k k' v v' : Value} (hm : VR φ m m') (hk : VR φ k k') (hv : VR φ v v') (h : aupdate P st t m k v = some st') :
    Out.ok P w0 φ st w (do Instr.mapUpdate t m' k' v'; pure .skip) (.eff undef st') := by
  unfold aupdate at h
  split at h
  · rename_i kt et r hu
    split at h
    · rename_i es clock hr
      · cases hm with
        | leaf hl => simp [leafB] at hl
        | @map _ B hB =>
          obtain ⟨B', o, S, g, s, k1, k2, es', k3, k4, k5⟩ := H.obj _ _ hr hB.ne
          have hBB : B = B' := by unfold MR at hB; simp only [k1] at hB; exact hB
          rw [← hBB] at k3
          have hE : EsR φ es es'.toList := ⟨by simpa using k4, fun i e e' a b => k5 i e e' a (by simpa using b)⟩
          have hne : ∀ a b c, Obj.map es' clock ≠ .cells a b c := fun a b c e => by cases e
          split at h
          · rename_i i v0 hf
            split at h
            · rename_i e he
              split at h
              · rename_i hs
                cases h
                obtain ⟨hcr, r', f1, f2⟩ := run_afindK H hk hE hf
                match r', f2 with
                | some (i', u), ⟨hi, _⟩ =>
                  subst hi
                  obtain ⟨e', he'⟩ : ∃ e', es'[i']? = some e' := by
                    have hlt : i' < es.length := by
                      rcases Nat.lt_or_ge i' es.length with h' | h'
                      · exact h'
                      · rw [List.getElem?_eq_none h'] at he; cases he
                    exact ⟨es'[i'], by simp [show i' < es'.size by omega]⟩
                  obtain ⟨q1, q2, q3⟩ := k5 i' e e' he he'
                  have hkey := stays_ok H q1 hk hs
                  obtain ⟨m1, m2⟩ := H.turnMap hr hB (c := clock) (fs := es.set i' { e with key := k, val := v }) (fs' := es'.modify i' fun e => { e with key := k', val := v' })
                    (by rw [modify_set _ _ _ _ he']; exact hE.set _ ⟨hk, hv, q3⟩)
                  refine ⟨φ, _, m1, m2, .inr ⟨?_, rfl⟩⟩
                  simp [Instr.mapUpdate, run_underlying hu, run_getMap k3, hcr, f1, he', Instr.keyThatStays, hkey, run_setObj k3 hne]
              · cases h
            · cases h
          · rename_i hf
            cases h
            obtain ⟨hcr, r', f1, f2⟩ := run_afindK H hk hE hf
            match r', f2 with
            | none, _ =>
              obtain ⟨m1, m2⟩ := H.turnMap hr hB (c := clock + 1) (fs := es ++ [{ key := k, val := v, born := clock }]) (fs' := es'.push { key := k', val := v', born := clock })
                (by rw [Array.toList_push]; exact hE.append1 ⟨hk, hv, rfl⟩)
              refine ⟨φ, _, m1, m2, .inr ⟨?_, rfl⟩⟩
              simp [Instr.mapUpdate, run_underlying hu, run_getMap k3, hcr, f1, run_setObj k3 hne]
          · cases h
    · cases h
  · cases h

def adelete (P : Program) (st : St) (t : TypeId) (m k : Value) : Option St :=
  match P.underlying t, m with
  | some (.map kt _), .map (some r) => match st.heap.get r with
    | some (.map es clock) => match afindK P st es.isEmpty kt k es with
        | some (some (i, _)) => some { st with heap := st.heap.put r (some (.map (es.eraseIdx i) clock)) }
        | some none => some { st with heap := st.heap.put r (some (.map es clock)) }
        | none => none
    | _ => none
  | _, _ => none
theorem ok_delete {P : Program} {w0 : W0} {w : World} {φ : Pm} {st st' : St} (H : HR w0 φ st w) {t u ty : TypeId} {m m' k k' : Value} (hm : VR φ m m') (hk : VR φ k k') (h : adelete P st t m k = some st') :
    Out.ok P w0 φ st w (do pure (.value (← Builtin.delete_ #[t, u] ty #[m', k']))) (.eff undef st') := by
  unfold adelete at h
  split at h
  · rename_i kt et r hu
    split at h
    · rename_i es clock hr
      · cases hm with
        | leaf hl => simp [leafB] at hl
        | @map _ B hB =>
          obtain ⟨B', o, S, g, s, k1, k2, es', k3, k4, k5⟩ := H.obj _ _ hr hB.ne
          have hBB : B = B' := by unfold MR at hB; simp only [k1] at hB; exact hB
          rw [← hBB] at k3
          have hE : EsR φ es es'.toList := ⟨by simpa using k4, fun i e e' a b => k5 i e e' a (by simpa using b)⟩
          have hne : ∀ a b c, Obj.map es' clock ≠ .cells a b c := fun a b c e => by cases e
          have hemp : es'.isEmpty = es.isEmpty := by
            rw [Bool.eq_iff_iff, Array.isEmpty_iff_size_eq_zero, List.isEmpty_iff, ← List.length_eq_zero_iff, k4]
          split at h
          · rename_i i v0 hf
            cases h
            obtain ⟨hcr, r', f1, f2⟩ := run_afindK H hk hE hf
            match r', f2 with
            | some (i', u), ⟨hi, _⟩ =>
              subst hi
              obtain ⟨m1, m2⟩ := H.turnMap hr hB (c := clock) (fs := es.eraseIdx i') (fs' := es'.eraseIdxIfInBounds i') (by rw [Array.toList_eraseIdxIfInBounds]; exact hE.erase i')
              refine ⟨φ, _, m1, m2, .inl ⟨undef, ?_, VR.undef _⟩⟩
              simp [Builtin.delete_, run_underlying hu, run_getMap k3, hemp, hcr, f1, run_setObj k3 hne]
              rfl
          · rename_i hf
            cases h
            obtain ⟨hcr, r', f1, f2⟩ := run_afindK H hk hE hf
            match r', f2 with
            | none, _ =>
              obtain ⟨m1, m2⟩ := H.turnMap hr hB (c := clock) (fs := es) (fs' := es') hE
              refine ⟨φ, _, m1, m2, .inl ⟨undef, ?_, VR.undef _⟩⟩
              simp [Builtin.delete_, run_underlying hu, run_getMap k3, hemp, hcr, f1, run_setObj k3 hne]
              rfl
          · cases h
    · cases h
  · cases h

/-! ### ranges over strings -/
def arange (P : Program) (t : TypeId) (x : Value) : Option Out := match P.underlying t, x with
  | some .string, .string s => if isMark s then none else some (.new (.iter s 0) fun b => .pointer (some ⟨b, 0, none⟩))
  | _, _ => none
theorem ok_range {P : Program} {w0 : W0} {w : World} {φ : Pm} {st : St} {t : TypeId} {x x' : Value} (hx : VR φ x x') {u : Out} (h : arange P t x = some u) :
    Out.ok P w0 φ st w (do pure (.value (← Instr.range t x'))) u := by
  unfold arange at h
  split at h
  · rename_i s hu
    split at h
    · cases h
    rename_i hnm
    cases h
    cases hx with
    | opq hm => exact absurd hm hnm
    | leaf =>
      refine ⟨.stringIter s 0, .pointer (some ⟨w.heap.size, 0, none⟩), w.alloc (.stringIter s 0), 0, false, 0, ?_, rfl, rfl, rfl, rfl, ?_⟩
      · simp [Instr.range, run_underlying hu]
      · intro φ' b hle hb
        exact ⟨⟨rfl, rfl⟩, .ptr (by unfold AR; simp [hb])⟩
  · cases h
def anext (st : St) (it : Value) : Option (Value × St) := match it with
  | .pointer (some ⟨b, 0, none⟩) => match st.heap.get b with
    | some (.iter s pos) => if Nat.blt pos s.data.toList.length then
        match Utf8.decode s pos with
        | (c, width) => some (.tuple ⟨[.bool true, goInt pos, .int .i32 c]⟩, { st with heap := st.heap.put b (some (.iter s (pos + width))) })
      else some (.tuple ⟨[.bool false]⟩, st)
    | _ => none
  | _ => none
theorem ok_next {P : Program} {w0 : W0} {w : World} {φ : Pm} {st st' : St} (H : HR w0 φ st w) {ty : TypeId} {x x' : Value} (hx : VR φ x x') {v : Value} (h : anext st x = some (v, st')) :
    Out.ok P w0 φ st w (do pure (.value (← Instr.next x' true ty))) (.eff v st') := by
  unfold anext at h
  split at h
  · rename_i b
    split at h
    · rename_i s pos hb
      cases hx with
      | leaf hl => simp [leafB] at hl
      | ptr ha =>
        obtain ⟨B, o, S, g, z, k1, k2, k0, k3⟩ := H.obj _ _ hb ha.ne
        subst k0
        unfold AR at ha
        simp only [k1] at ha
        obtain ⟨_, rfl⟩ := ha
        have hgo : (getObj B).run P w = .ok (.stringIter s pos) w := by simp [getObj, Sem.run, k3]
        have hne : ∀ a b c, Obj.stringIter s pos ≠ .cells a b c := fun a b c e => by cases e
        split at h
        · rename_i hlt
          have hlt : pos < s.size := by simp [Nat.blt] at hlt; omega
          cases h
          refine ⟨φ, _, H.turn hb rfl k1 (ob := .iter s (pos + (Utf8.decode s pos).2)) (ob' := .stringIter s (pos + (Utf8.decode s pos).2)) (w' := { w with heap := w.heap.setIfInBounds B (.stringIter s (pos + (Utf8.decode s pos).2)) })
            (set_heap w _ _ _ k3) (by simp) (fun k hk => set_other w _ k _ hk) rfl rfl rfl ⟨rfl, rfl⟩, Kept.put k1 _,
            .inl ⟨.tuple #[.bool true, goInt pos, .int .i32 (Utf8.decode s pos).1], ?_, VR.tuple_iff.2 (LR.cons (.leaf rfl) (LR.cons (.leaf rfl) (LR.cons (.leaf rfl) LR.nil)))⟩⟩
          refine run_val ?_
          simp [Instr.next, hgo, hlt, run_setObj k3 hne]
        · rename_i hlt
          have hlt : ¬ pos < s.size := by simp [Nat.blt] at hlt; omega
          cases h
          refine ⟨φ, w, H, Kept.refl _ _, .inl ⟨.tuple #[.bool false], ?_, VR.tuple_iff.2 (LR.cons (.leaf rfl) LR.nil)⟩⟩
          refine run_val ?_
          simp [Instr.next, hgo, hlt]
    · cases h
  · cases h
end Go.Ev

