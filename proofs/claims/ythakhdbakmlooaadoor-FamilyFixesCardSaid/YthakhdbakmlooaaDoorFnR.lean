/-
  FamilyFixes, plainly: relations in turned order; that the two Fix answer alike.
-/
import Derived.Test.YthakhdbakmlooaaDoorKbQ
namespace Go.Proofs.YthakhdbakmlooaaDoor
set_option linter.unusedSimpArgs false
set_option linter.unusedVariables false
open Go Go.RowKit Go.Shelf Go.Ev

/-- which relation comes k-th -/
def turnI (n t k : Nat) : Nat := (n - 1 - k + t) % n
/-- the first k of the relations in turned order -/
def turnK (rs : List RelV) (t k : Nat) : List RelV := (List.range k).map fun i => rs.getD (turnI rs.length t i) default
theorem turnK_length (rs : List RelV) (t k : Nat) : (turnK rs t k).length = k := by simp [turnK]
theorem turnI_lt {n t k : Nat} (h : 0 < n) : turnI n t k < n := Nat.mod_lt _ h
theorem turnK_succ (rs : List RelV) (t k : Nat) (h : 0 < rs.length) : turnK rs t (k + 1) = turnK rs t k ++ [rs[turnI rs.length t k]'(turnI_lt h)] := by
  unfold turnK
  rw [List.range_succ, List.map_append]
  simp only [List.map_cons, List.map_nil]
  rw [List.getD_eq_getElem?_getD, List.getElem?_eq_getElem (turnI_lt h)]
  rfl
theorem turnI_turn {n t j : Nat} (hj : j < n) : turnI n t (turnI n t j) = j := by
  unfold turnI
  have e := Nat.div_add_mod (n - 1 - j + t) n
  have hm := Nat.mod_lt (n - 1 - j + t) (show 0 < n by omega)
  generalize (n - 1 - j + t) % n = m at *
  generalize (n - 1 - j + t) / n = q at *
  have e2 : n - 1 - m + t = j + n * q := by omega
  rw [e2, Nat.add_mul_mod_self_left, Nat.mod_eq_of_lt hj]
theorem turn_mem (rs : List RelV) (t : Nat) (r : RelV) : r ∈ rs ↔ r ∈ turnK rs t rs.length := by
  unfold turnK
  rw [List.mem_map]
  refine ⟨fun h => ?_, fun ⟨i, hi, e⟩ => ?_⟩
  · obtain ⟨j, hj, rfl⟩ := List.mem_iff_getElem.1 h
    refine ⟨turnI rs.length t j, List.mem_range.2 (turnI_lt (by omega)), ?_⟩
    rw [turnI_turn hj, List.getD_eq_getElem?_getD, List.getElem?_eq_getElem hj]
    rfl
  · have hi := List.mem_range.1 hi
    have h0 : 0 < rs.length := by omega
    rw [List.getD_eq_getElem?_getD, List.getElem?_eq_getElem (turnI_lt h0)] at e
    rw [← e]
    exact List.getElem_mem _
theorem turn_sub (rs : List RelV) (t k : Nat) (r : RelV) (hk : k ≤ rs.length) (h : r ∈ turnK rs t k) : r ∈ rs := by
  unfold turnK at h
  obtain ⟨i, hi, rfl⟩ := List.mem_map.1 h
  have hi := List.mem_range.1 hi
  have h0 : 0 < rs.length := by omega
  rw [List.getD_eq_getElem?_getD, List.getElem?_eq_getElem (turnI_lt h0)]
  exact List.getElem_mem _
theorem turn_valid (rs : List RelV) (t : Nat) (fs : List FamV) : validP (turnK rs t rs.length) fs = validP rs fs := by
  unfold validP
  rw [turnK_length]
  congr 1
  rw [Bool.eq_iff_iff, List.all_eq_true, List.all_eq_true]
  exact ⟨fun h r hr => h r ((turn_mem rs t r).1 hr), fun h r hr => h r ((turn_mem rs t r).2 hr)⟩
theorem validP_parts {rs : List RelV} {fs : List FamV} (h : validP rs fs = true) : fs.all FamV.ok = true ∧ ∀ r ∈ rs, relB r.d r.vs fs.length = true := by
  simp only [validP, Bool.and_eq_true] at h
  exact ⟨h.1.2, fun r hr => List.all_eq_true.1 h.2 r hr⟩
section
variable {rs : List RelV} {fs : List FamV} (hv : validP rs fs = true)
include hv
theorem both_ok {K H : Nat → BdV} (hk : okAll fs = true) (s : Sett rs fs.length (firstF fs) true H) (hF : Fine H) (d : DS rs (firstF fs) K) (c : Cls rs K) : K = H :=
  ((doc_same (validP_parts hv).2 (fine_first (validP_parts hv).1 hk) (nml_first (validP_parts hv).1 hk) s (fun _ => hF)).1 K d c).2
theorem not_doc {K : Nat → BdV} (hk : okAll fs = true) (h : okAll fs = false ∨ ∃ H, Sett rs fs.length (firstF fs) false H) (d : DS rs (firstF fs) K) (c : Cls rs K) : False := by
  rcases h with h | ⟨H, s⟩
  · rw [hk] at h; cases h
  · exact absurd ((doc_same (validP_parts hv).2 (fine_first (validP_parts hv).1 hk) (nml_first (validP_parts hv).1 hk) s (fun h => by cases h)).1 K d c).1 (by decide)
theorem not_prog {H : Nat → BdV} (hk : okAll fs = true) (s : Sett rs fs.length (firstF fs) true H) (hF : Fine H) (h : okAll fs = false ∨ ∀ H', Cls rs H' → ¬ WF (firstF fs) H') : False := by
  rcases h with h | h
  · rw [hk] at h; cases h
  · exact absurd ((doc_same (validP_parts hv).2 (fine_first (validP_parts hv).1 hk) (nml_first (validP_parts hv).1 hk) s (fun _ => hF)).2 h) (by decide)
theorem turn_same {t : Nat} {b b' : Bool} {H H' : Nat → BdV} (hk : okAll fs = true) (s : Sett rs fs.length (firstF fs) b H) (s' : Sett (turnK rs t rs.length) fs.length (firstF fs) b' H') : b = b' ∧ (b = true → H = H') :=
  sett_same (turn_mem rs t) (validP_parts hv).2 (fine_first (validP_parts hv).1 hk) (nml_first (validP_parts hv).1 hk) s s'
end
theorem follow_far2 {r : RelV} {n : Nat} {F : Nat → BdV} (hr : relB r.d r.vs n = true) (hB : Bits F) (h : (followF r.d r.vs r.N F).1 = true) (i : Nat) (hi : n ≤ i) : (followF r.d r.vs r.N F).2 i = F i := by
  obtain ⟨m, hm, hl, hin, _⟩ := relV_parts hr
  have hp : i ∉ plc r.vs := fun hh => by
    obtain ⟨x, hx, rfl⟩ := List.mem_map.1 hh
    have := hin x hx
    omega
  unfold followF at h ⊢
  cases hk : relF r.d r.vs r.N F with
  | none => simp [hk] at h
  | some G =>
    rw [hk] at h
    dsimp only at h ⊢
    rw [(norms_stp r.vs G (bits_rel hB hk) h).1.2 i hp, (stp_rel hm hl hk).2 i hp]
theorem pass_far {n : Nat} : ∀ (rs : List RelV) (F : Nat → BdV), (∀ r ∈ rs, relB r.d r.vs n = true) → Fine F → (passF rs F).1 = true → ∀ i, n ≤ i → (passF rs F).2 i = F i
  | [], F, _, _, _, i, _ => rfl
  | r :: rs, F, hr, hf, h, i, hi => by
    obtain ⟨m, hm, hl, _⟩ := relV_parts (hr r List.mem_cons_self)
    unfold passF at h ⊢
    by_cases hk : (followF r.d r.vs r.N F).1 = true
    · rw [if_pos hk] at h ⊢
      have f := follow_stp hm hl hf hk
      rw [pass_far rs _ (fun r' h' => hr r' (List.mem_cons_of_mem _ h')) f.2 h i hi]
      exact follow_far2 (hr r List.mem_cons_self) hf.bits hk i hi
    · rw [if_neg hk] at h; cases h
theorem sett_far {rs : List RelV} {n : Nat} {F H : Nat → BdV} {b : Bool} (hr : ∀ r ∈ rs, relB r.d r.vs n = true) (s : Sett rs n F b H) : Fine F → b = true → ∀ i, n ≤ i → H i = F i := by
  have vr : ∀ r ∈ rs, ∃ m, varsN r.d = some m ∧ r.vs.length = m := fun r hr' => by
    obtain ⟨m, hm, hl, _⟩ := relV_parts (hr r hr')
    exact ⟨m, hm, hl⟩
  induction s with
  | fail _ => intro _ h; cases h
  | done h1 _ => intro hf _; exact pass_far rs _ hr hf h1
  | next h1 _ _ ih => intro hf hb i hi; rw [ih (pass_stp rs _ vr hf h1).2 hb i hi]; exact pass_far rs _ hr hf h1 i hi
/-- what Fix answers, as families -/
def OutOf (gs : List FamV) (n : Nat) (H : Nat → BdV) : Prop := gs.length = n ∧ ∀ i (h : i < gs.length), gs[i].lo = bi (H i).lo ∧ gs[i].hi = bi (H i).hi ∧ gs[i].mn = (H i).mn ∧ gs[i].mx = (H i).mx
theorem OutOf.ok {gs : List FamV} {n : Nat} {H : Nat → BdV} (h : OutOf gs n H) (hF : Fine H) : gs.all FamV.ok = true := List.all_eq_true.2 fun f hf => by
  obtain ⟨i, hi, rfl⟩ := List.mem_iff_getElem.1 hf
  obtain ⟨e1, e2, e3, e4⟩ := h.2 i hi
  unfold FamV.ok
  rw [e1, e2, e3, e4]
  exact valid_out (hF i)
theorem OutOf.bd {gs : List FamV} {n : Nat} {H : Nat → BdV} (h : OutOf gs n H) (hF : Fine H) (i : Nat) (hi : i < gs.length) : bdOf gs[i] = H i := by
  obtain ⟨e1, e2, e3, e4⟩ := h.2 i hi
  unfold bdOf
  rw [e1, e2, e3, e4, setN_bi (hF i).1, setN_bi (hF i).2.1]
/-- IT IS ITS OWN: what follows of what Fix answered is that -/
theorem fix_again {rs rs' : List RelV} {fs gs : List FamV} {H : Nat → BdV} (hv : validP rs fs = true) (hm : ∀ r, r ∈ rs ↔ r ∈ rs') (hl : rs'.length = rs.length) (hk : okAll fs = true) (s : Sett rs fs.length (firstF fs) true H) (hF : Fine H) (ho : OutOf gs fs.length H) :
    validP rs' gs = true ∧ okAll gs = true ∧ ∀ b K, Sett rs' gs.length (firstF gs) b K → b = true ∧ (Fine K → K = H) := by
  have hp := validP_parts hv
  have f0 := fine_first hp.1 hk
  have n0 := nml_first hp.1 hk
  have vr : ∀ r ∈ rs, ∃ m, varsN r.d = some m ∧ r.vs.length = m := fun r hr' => by
    obtain ⟨m, hm, hl, _⟩ := relV_parts (hp.2 r hr')
    exact ⟨m, hm, hl⟩
  have vr' : ∀ r ∈ rs', ∃ m, varsN r.d = some m ∧ r.vs.length = m := fun r h => vr r ((hm r).2 h)
  obtain ⟨p1, p2, p3⟩ := sett_P (P := Nml) nml_norm vr s f0 n0 rfl
  have cl := sett_closed hp.2 f0 p3 s
  have far := sett_far hp.2 s f0 rfl
  have e0 : firstF gs = H := funext fun i => by
    unfold firstF
    by_cases hi : i < gs.length
    · rw [List.getElem?_eq_getElem hi]
      dsimp only
      rw [ho.bd hF i hi]
      exact (p1 i).2
    · rw [List.getElem?_eq_none (by omega)]
      dsimp only
      rw [far i (by have := ho.1; omega)]
      unfold firstF
      rw [List.getElem?_eq_none (by have := ho.1; omega)]
  refine ⟨?_, ?_, fun b K sK => ?_⟩
  · simp only [validP, Bool.and_eq_true, decide_eq_true_eq] at hv ⊢
    refine ⟨⟨⟨by rw [ho.1]; exact hv.1.1.1, by rw [hl]; exact hv.1.1.2⟩, ho.ok hF⟩, List.all_eq_true.2 fun r hr => ?_⟩
    rw [ho.1]
    exact List.all_eq_true.1 hv.2 r ((hm r).2 hr)
  · refine List.all_eq_true.2 fun f hf => ?_
    obtain ⟨i, hi, rfl⟩ := List.mem_iff_getElem.1 hf
    rw [ho.bd hF i hi]
    exact (p1 i).1
  · rw [e0] at sK
    have w := wf_sett p3.bits p1 (fun r h => cl r ((hm r).2 h)) sK ⟨p3.bits, fun i => WB.refl _⟩
    refine ⟨w.1, fun hK => ?_⟩
    obtain rfl := w.1
    have w2 := ws_sett vr' sK p3 rfl
    exact funext fun i => ((w2 i).anti (w.2.2 i)).symm
end Go.Proofs.YthakhdbakmlooaaDoor
