/-
  append and copy.
-/
import Derived.Test.YtnfmfofialoioaaGreatDoorEvE
import Derived.Deep.AppendSrc
namespace Go.Ev
open Go Go.RowKit

theorem Le.dead {φ : Pm} {b : Nat} {B o S : Nat} {g : Bool} {s : Nat} (h : φ b = .live B o S g s) : Le φ (φ.tell b .dead) := fun c => by
  by_cases e : c = b
  · subst e; rw [Pm.tell_same]; simp [h]
  · rw [Pm.tell_other _ _ _ _ e]; cases φ c <;> simp
theorem HR.lt {w0 : W0} {w : World} {φ : Pm} {st : St} (h : HR w0 φ st w) {b : Nat} {x : Ob} (hb : st.heap.get b = some x) : b < st.next := by
  rcases Nat.lt_or_ge b st.next with h' | h'
  · exact h'
  · rw [h.absent b h'] at hb; cases hb
theorem HR.kill {w0 : W0} {w : World} {φ : Pm} {st : St} (h : HR w0 φ st w) {b : Nat} {B o S : Nat} {g : Bool} {s : Nat} (hp : φ b = .live B o S g s) :
    HR w0 (φ.tell b .dead) ⟨st.heap.put b none, st.next⟩ w := by
  have hle := Le.dead hp
  have hbn : b < st.next := by
    rcases Nat.lt_or_ge b st.next with h' | h'
    · exact h'
    · rw [h.fresh b h'] at hp; cases hp
  have key : ∀ c B o S g s, (φ.tell b .dead) c = .live B o S g s → c ≠ b ∧ φ c = .live B o S g s := fun c B o S g s hc => by
    by_cases e : c = b
    · subst e; rw [Pm.tell_same] at hc; cases hc
    · rw [Pm.tell_other _ _ _ _ e] at hc; exact ⟨e, hc⟩
  refine ⟨h.below, ?_, ?_, ?_, ?_, ?_, ?_⟩
  · intro c hc
    rw [Pm.tell_other _ _ _ _ (by simp at hc; omega)]
    exact h.fresh c hc
  · intro c hc
    simp only at hc ⊢
    rw [Tr.get_put_eq]
    split
    · rfl
    · exact h.absent c hc
  · intro c x hc hcn
    simp only [Tr.get_put_eq] at hc
    by_cases e : c = b
    · subst e; simp at hc
    · simp only [e, if_false] at hc
      rw [Pm.tell_other _ _ _ _ e] at hcn
      obtain ⟨B', o', S', g', s', k1, k2, k3⟩ := h.obj c x hc hcn
      exact ⟨B', o', S', g', s', by rw [Pm.tell_other _ _ _ _ e]; exact k1, k2, k3.mono hle⟩
  · intro b1 b2 B o1 S1 g1 s1 o2 S2 g2 s2 k1 k2
    exact h.inj _ _ _ _ _ _ _ _ _ _ _ (key _ _ _ _ _ _ k1).2 (key _ _ _ _ _ _ k2).2
  · intro c B o S g s hc
    exact h.used _ _ _ _ _ _ (key _ _ _ _ _ _ hc).2
  · refine ⟨fun r hr => ?_, fun r v k => ?_⟩
    · have hv := h.sym.1 r hr
      rw [Pm.tell_other _ _ _ _ (fun e => by subst e; rw [hv] at hp; cases hp)]; exact hv
    · by_cases e : r = b
      · subst e; rw [Pm.tell_same] at k; cases k
      · rw [Pm.tell_other _ _ _ _ e] at k; exact h.sym.2 r v k

/-- What an append adds: how many elements, and their cells. -/
def asrc (P : Program) (st : St) (u : TypeId) (size : Nat) (x : Value) : Option (Nat × List Value) := match P.underlying u, x with
  | some (.slice _), .slice none xl _ => if xl = 0 then some (0, []) else none
  | some (.slice _), .slice (some b) xl _ => match aloadCells st b (xl * size) with
    | some news => if news.all (·.oneCell') then some (xl, news) else none
    | none => none
  | some .string, .string s => if isMark s then none else if size = 1 then some (s.data.toList.length, byteCells s) else none
  | _, _ => none
theorem bytes_rel {φ : Pm} : ∀ l : List UInt8, LR φ (l.map fun b => Value.int .u8 b.toNat) (l.map fun b => Value.int .u8 b.toNat)
  | [] => LR.nil
  | _ :: l => LR.cons (.leaf rfl) (bytes_rel l)
theorem asrc_ok {P : Program} {w0 : W0} {w : World} {φ : Pm} {st : St} (H : HR w0 φ st w) {u : TypeId} {size : Nat} {x x' : Value} (hx : VR φ x x') {xl : Nat} {news : List Value} (h : asrc P st u size x = some (xl, news)) :
    ∃ news', LR φ news news' ∧ Src P size u x' xl news' w := by
  unfold asrc at h
  split at h
  · rename_i e n c hu
    split at h
    · rename_i h0
      cases h
      subst h0
      cases hx with
      | leaf => exact ⟨[], LR.nil, Src.ofNil w hu c⟩
    · cases h
  · rename_i e b n c hu
    split at h
    · rename_i l hl
      split at h
      · rename_i hone
        cases h
        cases hx with
        | leaf hl => simp [leafB] at hl
        | @slice _ b' _ _ c' ha _ =>
          obtain ⟨l', h1, h2, h3⟩ := aload_cells H ha hl
          exact ⟨l', h2, Src.ofSlice w hu b' _ c' l' h1 h3 (h2.all_one hone)⟩
      · cases h
    · cases h
  · rename_i t hu
    split at h
    · cases h
    rename_i hnm
    split at h
    · rename_i h1
      cases h
      subst h1
      cases hx with
      | opq hm => exact absurd hm hnm
      | leaf =>
        have hl : t.data.toList.length = t.size := by simp
        rw [hl]
        exact ⟨byteCells t, bytes_rel _, Src.ofString w hu t⟩
    · cases h
  · cases h

def aappend (P : Program) (st : St) (t u : TypeId) (s x : Value) : Option Out :=
  match P.underlying t, s with
  | some (.slice e), .slice sb sl sc =>
    match P.info? e with
    | none => none
    | some i =>
    match i.zero with
    | none => none
    | some z =>
    match asrc P st u i.size x with
    | none => none
    | some (xl, news) =>
    if Nat.beq z.cells.size i.size && Nat.blt 0 i.size && Nat.ble (sl + xl) 1099511627776 && Nat.ble ((sl + xl) * i.bytes) 140737488355328 then
    match sb with
    | none => if sl = 0 then if sc = 0 then if xl = 0 then some (.val s) else some (.new (.cells news e true i.size) fun b => .slice (some ⟨b, 0, none⟩) xl xl) else none else none
    | some a =>
    match st.heap.get a.block with
    | some (.cells _ el g sz) =>
      if xl = 0 then (if g || Nat.ble sl sc then some (.val s) else none) else
      if el = e then
      match aloadCells st a (sl * i.size) with
      | none => none
      | some olds =>
        if g then if sz = i.size then some (.eff (.slice (some ⟨st.next, 0, none⟩) (sl + xl) (sl + xl)) ⟨(st.heap.put a.block none).put st.next (some (.cells (olds ++ news) e true i.size)), st.next + 1⟩) else none
        else if Nat.ble (sl + xl) sc then match aputCells st (a.add (sl * i.size)) news with
          | some st' => some (.eff (.slice (some a) (sl + xl) sc) st')
          | none => none
        else some (.new (.cells (olds ++ news) e true i.size) fun b => .slice (some ⟨b, 0, none⟩) (sl + xl) (sl + xl))
      else none
    | _ => none
    else none
  | _, _ => none

/-- In place, with nothing to add. -/
theorem run_append_zero {P : Program} {w : World} {t u ty e : TypeId} {i : TypeInfo} (ht : P.underlying t = some (.slice e)) (hi : P.info? e = some i) {x : Value} {news : List Value} (hs : Src P i.size u x 0 news w) {sb : Option Addr} {sl sc : Nat} (h : sl ≤ sc) :
    (Builtin.append_ #[t, u] ty #[.slice sb sl sc, x]).run P w = .ok (.slice sb sl sc) w := by
  have hn : news = [] := List.eq_nil_of_length_eq_zero (by rw [hs.newsLen, Nat.zero_mul])
  have hc := hs.cells
  rw [hn] at hc
  rcases hs.kind with ⟨e', hk⟩ | hk <;> cases sb <;> simp [Builtin.append_, run_underlying ht, run_underlying hk, sizeOf, typeInfo, hi, hs.len, h, hc, storeCells]

theorem run_append_in {P : Program} {w w' : World} {t u ty e : TypeId} {i : TypeInfo} (ht : P.underlying t = some (.slice e)) (hi : P.info? e = some i) {a : Addr} {sl sc xl : Nat} (h : sl + xl ≤ sc)
    {x : Value} {news : List Value} (hs : Src P i.size u x xl news w) (hst : (storeCells (a.add (sl * i.size)) news).run P w = .ok () w') :
    (Builtin.append_ #[t, u] ty #[.slice (some a) sl sc, x]).run P w = .ok (.slice (some a) (sl + xl) sc) w' := by
  rcases hs.kind with ⟨e', hk⟩ | hk <;> simp [Builtin.append_, run_underlying ht, run_underlying hk, sizeOf, typeInfo, hi, hs.len, h, hs.cells, hst]

theorem size_grown {z : Array Value} {n m need cap : Nat} {size : Nat} (hz : z.size = size) (h1 : n + m = need * size) (h2 : need ≤ cap) : n + m + (Builtin.zeroCells z (cap - need)).size = cap * size := by
  rw [size_zeroCells, hz, h1, ← Nat.add_mul]; congr 1; omega

theorem ok_append {P : Program} {w0 : W0} {w : World} {φ : Pm} {st : St} (H : HR w0 φ st w) {t tu ty : TypeId} {s s' x x' : Value} (hs : VR φ s s') (hx : VR φ x x') {u : Out} (h : aappend P st t tu s x = some u) :
    Out.ok P w0 φ st w (do pure (.value (← Builtin.append_ #[t, tu] ty #[s', x']))) u := by
  unfold aappend at h
  split at h
  · rename_i e sb sl sc ht
    split at h
    · cases h
    rename_i i hi
    split at h
    · cases h
    rename_i z hz
    split at h
    · cases h
    rename_i xl news hnews
    split at h
    · rename_i hb
      simp only [Bool.and_eq_true] at hb
      obtain ⟨⟨⟨b1, b2⟩, b3⟩, b4⟩ := hb
      have b1 := Nat.eq_of_beq_eq_true b1
      have b2 : 0 < i.size := by simp [Nat.blt] at b2; omega
      have b3 := Nat.le_of_ble_eq_true b3
      have b4 := Nat.le_of_ble_eq_true b4
      obtain ⟨news', n2, n3⟩ := asrc_ok H hx hnews
      have n1 := n3.newsLen
      split at h
      · -- nil
        split at h
        · rename_i hsl
          subst hsl
          split at h
          · rename_i hsc
            subst hsc
            cases hs with
            | leaf =>
              split at h
              · rename_i h0
                cases h
                subst h0
                exact val_of (run_append_zero ht hi n3 (Nat.le_refl _)) (.leaf rfl)
              · rename_i h0
                cases h
                · have hnx := nextslicecap_zero (need := xl) (by omega)
                  have hr := run_append_grow_src (P := P) w t tu ty e i z ht hi hz none 0 0 [] (run_firstCells_none w.drew i.size 0 0 0) x' xl news' n3 (by omega) (by omega) (by simp only [Nat.zero_add] at b4 ⊢; rw [hnx]; omega)
                  simp only [Nat.zero_add, List.nil_append] at hr
                  have hge := grownCap_ge w xl 0 e
                  have hrun := congrArg (fun r => r.andThen fun (a : Value) w' => (pure (Next.value a) : Sem Next).run P w') hr
                  rw [← Sem.run_bind] at hrun
                  refine ⟨_, _, _, (grownCap w xl 0 e) * i.size, true, i.size, hrun, rfl, rfl, rfl, rfl, ?_⟩
                  intro φ' c hle hc
                  refine ⟨⟨rfl, rfl, _, rfl, ?_, ?_, fun e => by simp at e, ?_⟩, .slice ?_ ?_⟩
                  · have := size_grown (z := z.cells) (n := 0) (m := news'.length) (need := xl) (cap := grownCap w xl 0 e) b1 (by omega) hge
                    simpa using this
                  · rw [Nat.zero_add, n2.1, n1]; exact Nat.mul_le_mul_right _ hge
                  · rw [List.drop_zero, n2.1, Array.toList_append]
                    have : (news'.toArray.toList ++ (Builtin.zeroCells z.cells (grownCap w xl 0 e - xl)).toList).take news'.length = news' := List.take_left
                    rw [this]
                    exact n2.mono hle
                  · unfold AR; simp [hc]
                  · unfold CR; simp only [hc, if_true]; exact ⟨hge, by omega⟩
          · cases h
        · cases h
      · rename_i a
        split at h
        · rename_i cs el g sz hg
          cases hs with
          | leaf hl => simp [leafB] at hl
          | @slice _ a' _ _ sc' ha hc =>
            obtain ⟨B, o, S, g', s', k1, k2, k3, k4, arr, k5, k6, k7, k8, k9⟩ := H.obj _ _ hg ha.ne
            subst k3
            subst k4
            have ha0 := ha
            have hc0 := hc
            unfold AR at ha
            unfold CR at hc
            simp only [k1] at ha hc
            split at h
            · rename_i h0
              subst h0
              split at h
              · rename_i hle
                cases h
                have hle' : sl ≤ sc' := by
                  cases g' with
                  | true => simp only [if_true] at hc; exact hc.1
                  | false => simp only [Bool.false_eq_true, if_false] at hc; subst hc; simp only [Bool.false_or] at hle; exact Nat.le_of_ble_eq_true hle
                exact val_of (run_append_zero ht hi n3 hle') (.slice ha0 hc0)
              · cases h
            · rename_i h0
              split at h
              · rename_i hel
                subst hel
                split at h
                · cases h
                rename_i olds hold
                obtain ⟨olds', o1, o2, o3⟩ := aload_cells H ha0 hold
                have hlen : olds'.length + news'.length = (sl + xl) * i.size := by rw [o1, n1, Nat.add_mul]
                have grow : sc' < sl + xl → ∃ w', (Builtin.append_ #[t, tu] ty #[.slice (some a') sl sc', x']).run P w = .ok (.slice (some ⟨w.heap.size, 0, none⟩) (sl + xl) (grownCap w (sl + xl) sc' el)) w' ∧
                    w'.heap = w.heap.push (.cells ((olds' ++ news').toArray ++ Builtin.zeroCells z.cells (grownCap w (sl + xl) sc' el - (sl + xl))) el) ∧ w'.os = w.os ∧ w'.tape = w.tape ∧ w'.output = w.output ∧
                    ∀ φ' c, Le φ φ' → φ' c = .live w.heap.size 0 (grownCap w (sl + xl) sc' el * i.size) true i.size →
                      OR φ' (.cells (olds ++ news) el true i.size) (some (.cells ((olds' ++ news').toArray ++ Builtin.zeroCells z.cells (grownCap w (sl + xl) sc' el - (sl + xl))) el)) 0 (grownCap w (sl + xl) sc' el * i.size) true i.size ∧
                      VR φ' (.slice (some ⟨c, 0, none⟩) (sl + xl) (sl + xl)) (.slice (some ⟨w.heap.size, 0, none⟩) (sl + xl) (grownCap w (sl + xl) sc' el)) := by
                  intro hlt
                  have hr := run_append_grow_src (P := P) w t tu ty el i z ht hi hz (some a') sl sc' olds' (run_firstCells_some w.drew i.size sl a' sl sc' olds' o1 (by simpa using o3)) x' xl news' n3 hlt (by omega) (growslice_fits hlt b4)
                  have hge := grownCap_ge w (sl + xl) sc' el
                  refine ⟨_, hr, rfl, rfl, rfl, rfl, ?_⟩
                  intro φ' c hle hcc
                  refine ⟨⟨rfl, rfl, _, rfl, ?_, ?_, fun e => by simp at e, ?_⟩, .slice ?_ ?_⟩
                  · have := size_grown (z := z.cells) (n := olds'.length) (m := news'.length) (need := sl + xl) (cap := grownCap w (sl + xl) sc' el) b1 hlen hge
                    simpa using this
                  · rw [Nat.zero_add, List.length_append, o2.1, n2.1, hlen]; exact Nat.mul_le_mul_right _ hge
                  · rw [List.drop_zero, List.length_append, o2.1, n2.1, Array.toList_append]
                    have : ((olds' ++ news').toArray.toList ++ (Builtin.zeroCells z.cells (grownCap w (sl + xl) sc' el - (sl + xl))).toList).take (olds'.length + news'.length) = olds' ++ news' := by
                      rw [← List.length_append]; exact List.take_left
                    rw [this]
                    exact (o2.append n2).mono hle
                  · unfold AR; simp [hcc]
                  · unfold CR; simp only [hcc, if_true]; exact ⟨hge, by omega⟩
                split at h
                · rename_i hgt
                  subst hgt
                  split at h
                  · rename_i hsz
                    subst hsz
                    cases h
                    simp only [if_true] at hc
                    have hane : ∀ d, φ d = .none → d ≠ a.block := fun d hno e => by subst e; rw [k1] at hno; cases hno
                    have hkept : ∀ φ' : Pm, Le φ φ' → (∀ d, d < st.next → φ d = .none → φ' d = .none) →
                        Kept st φ ⟨(st.heap.put a.block none).put st.next (some (.cells (olds ++ news) el true i.size)), st.next + 1⟩ φ' := fun φ' hle hd =>
                      ⟨Nat.le_succ _, hle, fun d hdn hno => ⟨hd d hdn hno, by
                        rw [Tr.get_put_eq, if_neg (by omega), Tr.get_put_eq, if_neg (hane d hno)]⟩⟩
                    rcases Nat.lt_or_ge sc' (sl + xl) with hlt | hge
                    · obtain ⟨w', hr, hw, e1, e2, e3, hrel⟩ := grow hlt
                      have Hk := H.kill k1
                      have hfr : (φ.tell a.block .dead) st.next = .none := by
                        rw [Pm.tell_other _ _ _ _ (by have := H.lt hg; omega)]; exact H.fresh _ (Nat.le_refl _)
                      have hle1 : Le φ (φ.tell a.block .dead) := Le.dead k1
                      have hle2 := hle1.trans (Le.tell (b := st.next) (p := .live w.heap.size 0 (grownCap w (sl + xl) sc' el * i.size) true i.size) hfr)
                      obtain ⟨r1, r2⟩ := hrel _ st.next hle2 (Pm.tell_same _ _ _)
                      refine ⟨_, w', Hk.new hfr (Nat.le_succ _) (Nat.lt_succ_self _) hw e1 e2 e3 r1, hkept _ hle2 fun d hdn hno => ?_, .inl ⟨_, by rw [Sem.run_bind, hr]; rfl, r2⟩⟩
                      rw [Pm.tell_other _ _ _ _ (by omega), Pm.tell_other _ _ _ _ (hane d hno)]; exact hno
                    · obtain ⟨ha1, rfl⟩ := ha
                      have hfit : o + a.off + sl * i.size + news'.length ≤ arr.size := by
                        have h1 : (sl + xl) * i.size ≤ sc' * i.size := Nat.mul_le_mul_right _ hge
                        have h2 := hc.2
                        rw [n1]
                        rw [Nat.add_mul] at h1
                        omega
                      have hone := n3.one
                      have hst := run_storeCells_at P B (o + a.off + sl * i.size) el news' 0 arr w k5 (by omega) hone
                      simp only [Nat.add_zero] at hst
                      have hr := run_append_in (P := P) (w := w) (ty := ty) ht hi (a := ⟨B, o + a.off, none⟩) hge n3 (by rw [Addr.add_lit]; exact hst)
                      have hal : arr.toList.length = S := by simpa using k6
                      have hsz2 : sl * i.size + news'.length = (sl + xl) * i.size := by rw [n1, Nat.add_mul]
                      have holds : olds' = (arr.toList.drop (o + a.off)).take (sl * i.size) := by
                        apply List.ext_getElem?
                        intro j
                        rw [List.getElem?_take, List.getElem?_drop]
                        split
                        · rename_i hj
                          have hj' : j < olds'.length := by omega
                          have hv := o3 j olds'[j] (by simp [hj'])
                          rw [Addr.add_lit] at hv
                          simp only [World.cell?, k5] at hv
                          simp only [Option.isSome_none, Bool.false_eq_true, if_false] at hv
                          have hv2 : arr.toList[o + a.off + j]? = some olds'[j] := by rw [Array.getElem?_toList]; exact hv
                          rw [hv2]
                          simp [hj']
                        · rw [List.getElem?_eq_none (by omega)]
                      have seg := seg_take (l := arr.toList) (m := news') (o := o + a.off + sl * i.size) (n := o + a.off + sl * i.size + news'.length) (Nat.le_refl _) (by simpa using hfit) (o + a.off) (by omega)
                      have e1 : o + a.off + sl * i.size + news'.length - (o + a.off) = (sl * i.size + news'.length) := by omega
                      have e2 : o + a.off + sl * i.size - (o + a.off) = sl * i.size := by omega
                      rw [e1, e2] at seg
                      have e3 : ((arr.toList.drop (o + a.off)).take (sl * i.size + news'.length)).take (sl * i.size) = olds' := by rw [holds, List.take_take]; congr 1; omega
                      have e4 : ((arr.toList.drop (o + a.off)).take (sl * i.size + news'.length)).drop (sl * i.size + news'.length) = [] := by apply List.drop_eq_nil_of_le; simp; omega
                      rw [e3, e4, List.append_nil] at seg
                      have hor : ∀ φ' : Pm, Le φ φ' → OR φ' (.cells (olds ++ news) el true i.size) (some (.cells (arr.toList.take (o + a.off + sl * i.size) ++ news' ++ arr.toList.drop (o + a.off + sl * i.size + news'.length)).toArray el (0, 0))) (o + a.off) S true i.size := fun φ' hle =>
                        ⟨rfl, rfl, _, rfl, by simp; omega, by rw [List.length_append, o2.1, n2.1]; omega, fun e => (by cases e), by
                          rw [List.length_append, o2.1, n2.1, o1]
                          show LR φ' _ (((arr.toList.take (o + a.off + sl * i.size) ++ news' ++ arr.toList.drop (o + a.off + sl * i.size + news'.length)).drop (o + a.off)).take (sl * i.size + news'.length))
                          rw [seg]
                          exact (o2.append n2).mono hle⟩
                      have hfr : φ st.next = .none := H.fresh _ (Nat.le_refl _)
                      have hbc : st.next ≠ a.block := by have := H.lt hg; omega
                      have hle2 : Le φ ((φ.tell a.block .dead).tell st.next (.live B (o + a.off) S true i.size)) :=
                        (Le.dead k1).trans (Le.tell (by rw [Pm.tell_other _ _ _ _ hbc]; exact hfr))
                      obtain ⟨Hm, _⟩ := H.move hg k1 hfr (Nat.le_succ _) (Nat.lt_succ_self _) (o2 := o + a.off) (g2 := true) (s2 := i.size) (setRow_heap w B arr _ el _ k5) (setRow_size _ _ _) (fun k hk => setRow_other w B k _ hk) rfl rfl rfl (hor _ hle2)
                      refine ⟨_, _, Hm, hkept _ hle2 fun d hdn hno => ?_, .inl ⟨_, by rw [Sem.run_bind, hr]; rfl, .slice ?_ ?_⟩⟩
                      · rw [Pm.tell_other _ _ _ _ (by omega), Pm.tell_other _ _ _ _ (hane d hno)]; exact hno
                      · unfold AR; simp [Pm.tell_same]
                      · unfold CR
                        simp only [Pm.tell_same, if_true]
                        refine ⟨hge, ?_⟩
                        have := hc.2
                        simpa using this
                  · cases h
                · rename_i hgf
                  have hgf : g' = false := by simpa using hgf
                  subst hgf
                  simp only [Bool.false_eq_true, if_false] at hc
                  subst sc'
                  split at h
                  · rename_i hle
                    have hle := Nat.le_of_ble_eq_true hle
                    split at h
                    · rename_i st' hst'
                      cases h
                      obtain ⟨w', hr, h1, h2⟩ := aput_cells (P := P) H (ha0.add (sl * i.size)) n2 hst'
                      exact ⟨φ, w', h1, h2, .inl ⟨_, by rw [Sem.run_bind, run_append_in ht hi hle n3 hr]; rfl, .slice ha0 (by unfold CR; simp only [k1]; simp)⟩⟩
                    · cases h
                  · rename_i hle
                    cases h
                    have hlt : sc < sl + xl := by
                      rcases Nat.lt_or_ge sc (sl + xl) with h' | h'
                      · exact h'
                      · exact absurd (by rw [Nat.ble_eq]; exact h') hle
                    obtain ⟨w', hr, hw, e1, e2, e3, hrel⟩ := grow hlt
                    exact ⟨_, _, w', _, _, _, by rw [Sem.run_bind, hr]; rfl, hw, e1, e2, e3, hrel⟩
              · cases h
        · cases h
    · cases h
  · cases h
end Go.Ev
