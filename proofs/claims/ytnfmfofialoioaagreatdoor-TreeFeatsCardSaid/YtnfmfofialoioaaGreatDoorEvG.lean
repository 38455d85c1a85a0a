/-
  copy, make, literals, maps, functions, assertions.
-/
import Derived.Test.YtnfmfofialoioaaGreatDoorEvF
namespace Go.Ev
open Go Go.RowKit

theorem run_val {P : Program} {w w' : World} {s : Sem Value} {v : Value} (h : s.run P w = .ok v w') : (do pure (Next.value (← s)) : Sem Next).run P w = .ok (.value v) w' := by simp [h]

/-! ### copy -/
def acopy (P : Program) (st : St) (t : TypeId) (d x : Value) : Option Out :=
  match P.underlying t, d, x with
  | some (.slice e), .slice (some a) dl _, .slice (some b) xl _ => match sizeB P e with
    | some s => match aloadCells st b (Nat.min xl dl * s) with
      | some l => match aputCells st a l with
        | some st' => some (.eff (goInt (Nat.min xl dl)) st')
        | none => none
      | none => none
    | none => none
  | some (.slice e), .slice _ _ _, .slice none xl _ => match sizeB P e with
    | some _ => if Nat.beq xl 0 then some (.val (goInt 0)) else none
    | none => none
  | _, _, _ => none
theorem ok_copy {P : Program} {w0 : W0} {w : World} {φ : Pm} {st : St} (H : HR w0 φ st w) {t u ty : TypeId} {d d' x x' : Value} (hd : VR φ d d') (hx : VR φ x x') {r : Out} (h : acopy P st t d x = some r) :
    Out.ok P w0 φ st w (do pure (.value (← Builtin.copy_ #[t, u] ty #[d', x']))) r := by
  unfold acopy at h
  split at h
  · rename_i e a dl dc b xl xc ht
    split at h
    · rename_i s hs
      split at h
      · rename_i l hl
        split at h
        · rename_i st' hst
          cases h
          cases hd with
          | leaf hl => simp [leafB] at hl
          | slice ha _ => cases hx with
            | leaf hl => simp [leafB] at hl
            | @slice _ b' _ _ xc' hb _ =>
              obtain ⟨l', h1, h2, h3⟩ := aload_cells H hb hl
              obtain ⟨w', hr, h4, h5⟩ := aput_cells (P := P) H ha h2 hst
              have hf := run_firstCells_some (P := P) w s (Nat.min xl dl) b' xl xc' l' h1 h3
              refine ⟨φ, w', h4, h5, .inl ⟨goInt (Nat.min xl dl), ?_, .leaf rfl⟩⟩
              simp only [Builtin.copy_, Sem.run_bind, run_underlying ht, Result.andThen_ok, Builtin.lenOf, Sem.run_pure, run_size hs, hf, hr, List.getElem?_toArray, List.getElem?_cons_zero, List.getElem?_cons_succ]
        · cases h
      · cases h
    · cases h
  · rename_i ht
    split at h
    · rename_i s hs
      split at h
      · rename_i h0
        obtain rfl := Nat.eq_of_beq_eq_true h0
        cases h
        cases hx with
        | leaf =>
          have hd2 : ∃ b l c, d' = .slice b l c := by
            cases hd with
            | leaf => exact ⟨_, _, _, rfl⟩
            | slice => exact ⟨_, _, _, rfl⟩
          obtain ⟨b, l, c, rfl⟩ := hd2
          refine val_of ?_ (.leaf rfl)
          cases b <;> simp [Builtin.copy_, run_underlying ht, Builtin.lenOf, run_size hs, Builtin.firstCells, storeCells]
      · cases h
    · cases h
  · cases h

/-! ### make -/
def zrep (z : List Value) : Nat → List Value
  | 0 => []
  | n + 1 => z ++ zrep z n
theorem zrep_length (z : List Value) : ∀ n, (zrep z n).length = n * z.length
  | 0 => by simp [zrep]
  | n + 1 => by simp [zrep, zrep_length z n, Nat.add_mul]; omega
theorem zrep_get (z : List Value) (hz : 0 < z.length) : ∀ (n i : Nat), i < n * z.length → (zrep z n)[i]? = z[i % z.length]?
  | 0, i, h => by omega
  | n + 1, i, h => by
    simp only [zrep]
    rw [List.getElem?_append]
    split
    · rename_i hi; rw [Nat.mod_eq_of_lt hi]
    · rename_i hi
      have e : (n + 1) * z.length = n * z.length + z.length := Nat.succ_mul _ _
      rw [zrep_get z hz n (i - z.length) (by omega), Nat.mod_eq_sub_mod (a := i) (b := z.length) (by omega)]
theorem zrep_made (z : Array Value) (n : Nat) : ((Array.range (n * z.size)).map (z[· % z.size]!)).toList = zrep z.toList n := by
  by_cases hz : z.size = 0
  · have : z.toList = [] := by simpa using hz
    rw [hz, Nat.mul_zero, this]
    have h0 : ∀ n, zrep [] n = [] := fun n => by induction n with | zero => rfl | succ n ih => simp [zrep, ih]
    rw [h0]; simp
  · apply List.ext_getElem?
    intro i
    by_cases hi : i < n * z.size
    · rw [zrep_get z.toList (by simp; omega) n i (by simpa using hi)]
      have hm : i % z.size < z.size := Nat.mod_lt _ (by omega)
      simp [hi, hm]
    · rw [List.getElem?_eq_none (by simp; omega), List.getElem?_eq_none (by rw [zrep_length]; simp; omega)]
theorem zrep_refl {φ : Pm} {z : List Value} (h : LR φ z z) : ∀ n, LR φ (zrep z n) (zrep z n)
  | 0 => LR.nil
  | n + 1 => h.append (zrep_refl h n)

def amakeSlice (P : Program) (t : TypeId) (l c : Value) : Option Out :=
  match P.underlying t, l, c with
  | some (.slice e), .int _ l, .int _ c => match P.info? e with
    | some i => match i.zero with
      | some z => if plainB 3 z && Nat.beq z.cells.size i.size && decide (0 ≤ l) && decide (l ≤ c) && decide (c ≤ 1099511627776) && decide ((i.bytes : Int) * c ≤ 281474976710656) then
          some (.new (.cells (zrep z.cells.toList c.toNat) e false i.size) fun b => .slice (some ⟨b, 0, none⟩) l.toNat c.toNat)
        else none
      | none => none
    | none => none
  | _, _, _ => none
theorem ok_makeSlice {P : Program} {w0 : W0} {w : World} {φ : Pm} {st : St} {t : TypeId} {l l' c c' : Value} (hl : VR φ l l') (hc : VR φ c c') {r : Out} (h : amakeSlice P t l c = some r) :
    Out.ok P w0 φ st w (do pure (.value (← Instr.makeSlice t l' c'))) r := by
  unfold amakeSlice at h
  split at h
  · rename_i e kl n kc m ht
    split at h
    · rename_i i hi
      split at h
      · rename_i z hz
        split at h
        · rename_i hb
          simp only [Bool.and_eq_true, decide_eq_true_eq] at hb
          obtain ⟨⟨⟨⟨⟨b1, b2⟩, b3⟩, b4⟩, b5⟩, b6⟩ := hb
          have b2 := Nat.eq_of_beq_eq_true b2
          cases h
          cases hl with
          | leaf => cases hc with
            | leaf =>
              have hr := run_make (P := P) w t e i z ht hi hz kl kc n m b3 b4 b6 (by omega)
              refine ⟨_, _, _, m.toNat * i.size, false, i.size, run_val hr, rfl, rfl, rfl, rfl, ?_⟩
              intro φ' b hle hb
              have hcells : (madeCells z.cells (m.toNat * i.size)).toList = zrep z.cells.toList m.toNat := by
                unfold madeCells; rw [← b2]; exact zrep_made _ _
              have hlen : (zrep z.cells.toList m.toNat).length = m.toNat * i.size := by rw [zrep_length]; simp [b2]
              refine ⟨⟨rfl, rfl, _, rfl, size_madeCells _ _, by omega, fun _ => ⟨rfl, hlen⟩, ?_⟩, .slice ?_ ?_⟩
              · rw [List.drop_zero, hcells, List.take_length]
                exact zrep_refl (plain_refl 3 z b1).cells _
              · unfold AR; simp [hb]
              · unfold CR; simp [hb]
        · cases h
      · cases h
    · cases h
  · cases h

theorem ok_makeMap {P : Program} {w0 : W0} {w : World} {φ : Pm} {st : St} {t : TypeId} :
    Out.ok P w0 φ st w (do pure (.value (← Instr.makeMap t none))) (.new (.map [] 0) fun b => .map (some b)) := by
  refine ⟨.map #[] 0, .map (some w.heap.size), w.alloc (.map #[] 0), 0, false, 0, ?_, rfl, rfl, rfl, rfl, ?_⟩
  · simp [Instr.makeMap]
  · intro φ' b hle hb
    refine ⟨⟨#[], rfl, rfl, fun i e e' h => by simp at h⟩, .map ?_⟩
    unfold MR; simp [hb]

/-! ### literals -/
theorem cells_size {φ : Pm} {v v' : Value} (h : VR φ v v') : v'.cells.size = v.cells.size := by have := h.cells.1; simpa using this.symm
def PR (φ : Pm) (ps ps' : List (Nat × Value)) : Prop := ps.length = ps'.length ∧ ∀ (i : Nat) (p p' : Nat × Value), ps[i]? = some p → ps'[i]? = some p' → p.1 = p'.1 ∧ VR φ p.2 p'.2
theorem foldl_set {φ : Pm} (off : Nat) : ∀ (vs vs' : List Value) (k : Nat) (cs cs' : Array Value), LR φ vs vs' → LR φ cs.toList cs'.toList →
    LR φ ((vs.zipIdx k).foldl (fun cs (c, j) => cs.setIfInBounds (off + j) c) cs).toList ((vs'.zipIdx k).foldl (fun cs (c, j) => cs.setIfInBounds (off + j) c) cs').toList
  | [], [], _, _, _, _, h => h
  | [], _ :: _, _, _, _, h, _ => absurd h.1 (by simp)
  | _ :: _, [], _, _, _, h, _ => absurd h.1 (by simp)
  | v :: vs, v' :: vs', k, cs, cs', h, hc => by
    obtain ⟨h1, h2⟩ := h.cons_inv
    simp only [List.zipIdx_cons, List.foldl_cons]
    refine foldl_set off vs vs' (k + 1) _ _ h2 ?_
    rw [Array.toList_setIfInBounds, Array.toList_setIfInBounds]
    exact hc.set _ h1
theorem foldl_set_size (off : Nat) : ∀ (vs : List Value) (k : Nat) (cs : Array Value), ((vs.zipIdx k).foldl (fun cs (c, j) => cs.setIfInBounds (off + j) c) cs).size = cs.size
  | [], _, _ => rfl
  | v :: vs, k, cs => by simp only [List.zipIdx_cons, List.foldl_cons]; rw [foldl_set_size off vs]; simp
theorem arr_foldl (off : Nat) (vs : Array Value) (cs : Array Value) : vs.zipIdx.foldl (fun cs (c, j) => cs.setIfInBounds (off + j) c) cs = (vs.toList.zipIdx 0).foldl (fun cs (c, j) => cs.setIfInBounds (off + j) c) cs := by
  rw [← Array.foldl_toList]; simp
theorem fill_rel {φ : Pm} {place : Nat → Option (Nat × Nat)} : ∀ (ps ps' : List (Nat × Value)) (cs cs' : Array Value) (r : Array Value), PR φ ps ps' → LR φ cs.toList cs'.toList → Instr.fill place cs ps = some r →
    ∃ r', Instr.fill place cs' ps' = some r' ∧ LR φ r.toList r'.toList ∧ r.size = cs.size
  | [], [], cs, cs', r, _, hc, h => by simp only [Instr.fill] at h; cases h; exact ⟨cs', rfl, hc, rfl⟩
  | [], _ :: _, _, _, _, h, _, _ => absurd h.1 (by simp)
  | _ :: _, [], _, _, _, h, _, _ => absurd h.1 (by simp)
  | (i, v) :: ps, (i', v') :: ps', cs, cs', r, hp, hc, h => by
    obtain ⟨h1, h2⟩ := hp.2 0 (i, v) (i', v') rfl rfl
    simp only at h1 h2
    subst h1
    have hp2 : PR φ ps ps' := ⟨by have := hp.1; simpa using this, fun j p p' a b => hp.2 (j + 1) p p' (by simpa using a) (by simpa using b)⟩
    have hcs : cs'.size = cs.size := by have := hc.1; simpa using this.symm
    simp only [Instr.fill] at h ⊢
    cases hpl : place i with
    | none => rw [hpl] at h; simp at h
    | some q =>
      obtain ⟨off, size⟩ := q
      rw [hpl] at h
      simp only at h ⊢
      rw [cells_size h2, hcs]
      split at h
      · cases h
      · rename_i hb
        rw [if_neg hb]
        rw [arr_foldl] at h ⊢
        obtain ⟨r', k1, k2, k3⟩ := fill_rel ps ps' _ _ r hp2 (foldl_set off _ _ 0 _ _ h2.cells hc) h
        exact ⟨r', k1, k2, by rw [k3, foldl_set_size]⟩

def zeroPlain (P : Program) (t : TypeId) : Bool := match P.info? t with
  | some i => match i.zero with
    | some z => plainB 3 z
    | none => false
  | none => false
def abuild (P : Program) (t : TypeId) (ps : List (Nat × Value)) : Option Value :=
  if zeroPlain P t then match P.built t ps with
    | some r => some (.agg r)
    | none => none
  else none
theorem ok_build {P : Program} {w0 : W0} {w : World} {φ : Pm} {st : St} {t : TypeId} {ps : List (Nat × Value)} {ps' : Array (Nat × Value)} (hp : PR φ ps ps'.toList) {v : Value} (h : abuild P t ps = some v) :
    Out.ok P w0 φ st w (do pure (.value (← Instr.build t ps'))) (.val v) := by
  unfold abuild at h
  split at h
  · rename_i hzp
    unfold zeroPlain at hzp
    split at h
    · rename_i r hr
      cases h
      have key : ∃ r', P.built t ps'.toList = some r' ∧ LR φ r.toList r'.toList := by
        unfold Program.built at hr ⊢
        cases hi : P.info? t with
        | none => rw [hi] at hzp; cases hzp
        | some it =>
          rw [hi] at hzp hr
          simp only at hzp
          cases hz : it.zero with
          | none => rw [hz] at hzp; cases hzp
          | some z =>
            rw [hz] at hzp
            simp only at hzp
            have hcz := (plain_refl (φ := φ) 3 z hzp).cells
            cases hu : P.underlying t with
            | none => rw [hu] at hr; cases hr
            | some d =>
              rw [hu] at hr
              cases d <;> simp only [hz, reduceCtorEq] at hr ⊢
              case array n e =>
                cases hie : P.info? e with
                | none => rw [hie] at hr; cases hr
                | some ie =>
                  rw [hie] at hr
                  obtain ⟨r', k1, k2, _⟩ := fill_rel _ _ _ _ _ hp hcz hr
                  exact ⟨r', k1, k2⟩
              case struct fields =>
                cases hpl : fields.toList.mapM (fun f => (P.info? f.type).map fun i => (f.offset, i.size)) with
                | none => rw [hpl] at hr; cases hr
                | some places =>
                  rw [hpl] at hr
                  obtain ⟨r', k1, k2, _⟩ := fill_rel _ _ _ _ _ hp hcz hr
                  exact ⟨r', k1, k2⟩
      obtain ⟨r', k1, k2⟩ := key
      obtain ⟨r⟩ := r
      obtain ⟨r'⟩ := r'
      exact val_of (run_build w t ps' _ k1) (VR.agg_iff.2 k2)
    · cases h
  · cases h

def abuildSlice (P : Program) (t : TypeId) (len : Nat) (ps : List (Nat × Value)) : Option Out :=
  match P.underlying t with
  | some (.slice e) => match P.info? e with
    | some i => match i.zero with
      | some z => if plainB 3 z && Nat.beq z.cells.size i.size && Nat.ble (len * i.size) 16777216 then
          match Instr.fill (fun k => some (k * i.size, i.size)) ⟨zrep z.cells.toList len⟩ ps with
          | some r => some (.new (.cells r.toList e false i.size) fun b => .slice (some ⟨b, 0, none⟩) len len)
          | none => none
        else none
      | none => none
    | none => none
  | _ => none
theorem ok_buildSlice {P : Program} {w0 : W0} {w : World} {φ : Pm} {st : St} {t : TypeId} {len : Nat} {ps : List (Nat × Value)} {ps' : Array (Nat × Value)} (hp : PR φ ps ps'.toList) {u : Out} (h : abuildSlice P t len ps = some u) :
    Out.ok P w0 φ st w (do pure (.value (← Instr.buildSlice t len ps'))) u := by
  unfold abuildSlice at h
  split at h
  · rename_i e hu
    split at h
    · rename_i i hi
      split at h
      · rename_i z hz
        split at h
        · rename_i hb
          simp only [Bool.and_eq_true] at hb
          obtain ⟨⟨b1, b2⟩, b3⟩ := hb
          have b2 := Nat.eq_of_beq_eq_true b2
          have b3 := Nat.le_of_ble_eq_true b3
          split at h
          · rename_i r hr
            cases h
            have hcz : LR φ (zrep z.cells.toList len) (zrep z.cells.toList len) := zrep_refl (plain_refl 3 z b1).cells _
            obtain ⟨r', k1, k2, k3⟩ := fill_rel _ _ _ ⟨zrep z.cells.toList len⟩ _ hp hcz hr
            have hlen : r.size = len * i.size := by rw [k3]; simp [zrep_length, b2]
            have hlen' : r'.size = len * i.size := by rw [← hlen]; have := k2.1; simpa using this.symm
            have hmade : ((Array.range (len * i.size)).map (z.cells[· % z.cells.size]!)) = ⟨zrep z.cells.toList len⟩ := by
              apply Array.ext'
              rw [← b2]
              exact zrep_made _ _
            have hrun : (Instr.buildSlice t len ps').run P w = .ok (.slice (some ⟨w.heap.size, 0, none⟩) len len) (w.alloc (.cells r' e)) := by
              have hn : ¬ (16777216 < len * i.size) := by omega
              by_cases h0 : len * i.size = 0
              · have hm0 : ((Array.range 0).map ((#[] : Array Value)[· % (#[] : Array Value).size]!)) = ⟨zrep z.cells.toList len⟩ := by
                  rw [← hmade, h0]; simp [Array.range_zero']
                simp only [Instr.buildSlice, Sem.run_bind, run_underlying hu, Result.andThen_ok, run_size (show sizeB P e = some i.size by simp [sizeB, hi]), h0, gt_iff_lt, Nat.not_lt_zero, if_true, Sem.run_pure, Sem.run_ite]
                rw [if_neg (fun h => h), hm0, k1]
                simp [newRow]
              · simp only [Instr.buildSlice, Sem.run_bind, run_underlying hu, Result.andThen_ok, run_size (show sizeB P e = some i.size by simp [sizeB, hi]), gt_iff_lt, Sem.run_ite, h0, if_false]
                rw [if_neg (by omega)]
                simp only [zeroValue, typeInfo, Sem.run_bind, run_program, Result.andThen_ok, hi, hz, Sem.run_pure]
                rw [hmade, k1]
                simp [newRow]
            refine ⟨.cells r' e, _, _, len * i.size, false, i.size, run_val hrun, rfl, rfl, rfl, rfl, ?_⟩
            intro φ' b hle hb
            refine ⟨⟨rfl, rfl, r', rfl, hlen', by simp; omega, fun _ => ⟨rfl, by simpa using hlen⟩, ?_⟩, .slice ?_ ?_⟩
            · have hll : r.toList.length = r'.toList.length := k2.1
              rw [List.drop_zero, hll, List.take_length]
              exact k2.mono hle
            · unfold AR; simp [hb]
            · unfold CR; simp [hb]
          · cases h
        · cases h
      · cases h
    · cases h
  · cases h
end Go.Ev
