/-
  Plain: what follows from a relation loses no sets for which it holds.
-/
import Derived.Test.YthakhdbakmlooaaDoorKbL
import Derived.Test.YthakhdbakmlooaaDoorKbG
namespace Go.Proofs.YthakhdbakmlooaaDoor
set_option linter.unusedSimpArgs false
set_option linter.unusedVariables false
open Go Go.RowKit Go.Shelf Go.Ev

/-- a set lies within bounds -/
def InB (b : BdV) (S : Nat) : Prop := (∀ t, b.lo.testBit t = true → S.testBit t = true) ∧ (∀ t, S.testBit t = true → b.hi.testBit t = true) ∧ b.mn ≤ ones S ∧ (ones S : Int) ≤ b.mx
/-- sets lie within bounds -/
def SB (F : Nat → BdV) (σ : Nat → Nat) : Prop := Bits F ∧ ∀ i, InB (F i) (σ i)
def Wd (σ : Nat → Nat) : Prop := ∀ i, σ i < 18446744073709551616
theorem nt_bit {x t : Nat} (hx : x < 18446744073709551616) (h : (nt x).testBit t = true) : x.testBit t = false := by
  have e : nt x = 2 ^ 64 - (x + 1) := by
    unfold nt
    have : (2 : Nat) ^ 64 = 18446744073709551616 := by decide
    omega
  rw [e, Nat.testBit_two_pow_sub_succ (show x < 2 ^ 64 from hx)] at h
  simp only [Bool.and_eq_true, Bool.not_eq_true'] at h
  exact h.2
section
variable {F : Nat → BdV} {σ : Nat → Nat}
theorem SB.lo (h : SB F σ) (i t : Nat) (k : (F i).lo.testBit t = true) : (σ i).testBit t = true := (h.2 i).1 t k
theorem SB.nh (h : SB F σ) (i t : Nat) (k : (F i).hi.testBit t = false) : (σ i).testBit t = false := by
  cases e : (σ i).testBit t
  · rfl
  · rw [(h.2 i).2.1 t e] at k; cases k
theorem SB.nhi (h : SB F σ) (i t : Nat) (k : (nt (F i).hi).testBit t = true) : (σ i).testBit t = false := h.nh i t (nt_bit (h.1 i).2 k)
theorem SB.sub (h : SB F σ) (i j t : Nat) (k : (sub64 (F i).lo (F j).hi).testBit t = true) : (σ i).testBit t = true ∧ (σ j).testBit t = false := by
  rw [sub_bit (h.1 j).2] at k
  simp only [Bool.and_eq_true, Bool.not_eq_true'] at k
  exact ⟨h.lo i t k.1, h.nh j t k.2.2⟩
theorem SB.upd (h : SB F σ) (x : Nat) (b : BdV) (h1 : b.lo < 18446744073709551616) (h2 : b.hi < 18446744073709551616) (hb : InB b (σ x)) : SB (upd F x b) σ :=
  ⟨h.1.upd x b h1 h2, fun i => by
    by_cases e : i = x
    · rw [e, upd_same]; exact hb
    · rw [upd_other _ _ e]; exact h.2 i⟩
theorem SB.into (h : SB F σ) (x s : Nat) (hs : s < 18446744073709551616) (hb : ∀ t, s.testBit t = true → (σ x).testBit t = true) : SB (intoF F x s) σ :=
  h.upd x _ (or_lt (h.1 x).1 hs) (h.1 x).2 ⟨fun t k => by
    rw [Nat.testBit_or, Bool.or_eq_true] at k
    rcases k with k | k
    · exact (h.2 x).1 t k
    · exact hb t k, (h.2 x).2⟩
theorem SB.out (hw : Wd σ) (h : SB F σ) (x s : Nat) (hs : s < 18446744073709551616) (hb : ∀ t, s.testBit t = true → (σ x).testBit t = false) : SB (outF F x s) σ :=
  h.upd x _ (h.1 x).1 (sub64_lt (h.1 x).2) ⟨(h.2 x).1, fun t k => by
    rw [sub_bit hs, (h.2 x).2.1 t k]
    have ht : t < 64 := by
      by_cases e : t < 64
      · exact e
      · have : (σ x).testBit t = false := Nat.testBit_lt_two_pow (Nat.lt_of_lt_of_le (hw x) (Nat.pow_le_pow_right (n := 2) (by decide) (show 64 ≤ t by omega)))
        rw [this] at k; cases k
    have hn : s.testBit t = false := by
      cases e : s.testBit t
      · rfl
      · rw [hb t e] at k; cases k
    simp [ht, hn], (h.2 x).2.2⟩
theorem SB.least (h : SB F σ) (x : Nat) (k : Int) (hk : k ≤ ones (σ x)) : SB (leastF F x k) σ :=
  h.upd x _ (h.1 x).1 (h.1 x).2 ⟨(h.2 x).1, (h.2 x).2.1, Int.max_le.2 ⟨(h.2 x).2.2.1, hk⟩, (h.2 x).2.2.2⟩
theorem SB.most (h : SB F σ) (x : Nat) (k : Int) (hk : (ones (σ x) : Int) ≤ k) : SB (mostF F x k) σ :=
  h.upd x _ (h.1 x).1 (h.1 x).2 ⟨(h.2 x).1, (h.2 x).2.1, (h.2 x).2.2.1, Int.le_min.2 ⟨(h.2 x).2.2.2, hk⟩⟩
end
set_option hygiene false in
macro "bitdec" : tactic => `(tactic| (
  generalize (σ x).testBit t = a
  generalize (σ y).testBit t = b
  generalize (σ z).testBit t = c
  revert a b c
  decide))
/-- what a relation says of sets -/
def relS (d : Kd) (x y z : Nat) (N : Int) (σ : Nat → Nat) : Prop := match d with
  | .part => ∀ t, (σ x).testBit t = true → (σ y).testBit t = true
  | .apart => ∀ t, (σ x).testBit t = true → (σ y).testBit t = false
  | .union => ∀ t, (σ z).testBit t = ((σ x).testBit t || (σ y).testBit t)
  | .meet => ∀ t, (σ z).testBit t = ((σ x).testBit t && (σ y).testBit t)
  | .minus => ∀ t, (σ z).testBit t = ((σ x).testBit t && !(σ y).testBit t)
  | .has => inR N = true ∧ (σ x).testBit N.toNat = true
  | .lacks => inR N = true → (σ x).testBit N.toNat = false
  | .size => (ones (σ x) : Int) = N
  | .none => False
theorem inR_lt {N : Int} (h : inR N = true) : N.toNat < 64 := by
  simp only [inR, Bool.and_eq_true, decide_eq_true_eq] at h
  omega
end Go.Proofs.YthakhdbakmlooaaDoor

/-
  Plain: settling loses no sets for which all relations hold.
-/
namespace Go.Proofs.YthakhdbakmlooaaDoor
set_option linter.unusedSimpArgs false
open Go Go.RowKit Go.Shelf Go.Ev

/-- what a relation as it lies says of sets -/
def RelV.holds (r : RelV) (σ : Nat → Nat) : Prop := relS r.d (r.vs.getD 0 0).toNat (r.vs.getD 1 0).toNat (r.vs.getD 2 0).toNat r.N σ
/-- what normalizing gives lasts -/
theorem norms_P {P : BdV → Prop} (hP : ∀ b : BdV, b.lo < 18446744073709551616 → b.hi < 18446744073709551616 → okB b = true → P (normB b)) : ∀ (vs : List Int) (F : Nat → BdV), Bits F → (normsF F vs).1 = true → ∀ i, i ∈ plc vs → P ((normsF F vs).2 i)
  | [], _, _, _ => fun _ h => absurd h (by simp [plc])
  | v :: vs, F, hB, h => fun i hi => by
    cases hk : okB (F v.toNat) with
    | false => rw [normsF_cons_bad hk] at h; cases h
    | true =>
      rw [normsF_cons_ok hk] at h ⊢
      by_cases hv : i ∈ plc vs
      · exact norms_P hP vs _ (bits_norm hB v.toNat) h i hv
      · rcases List.mem_cons.1 hi with e | e
        · rw [(norms_stp vs _ (bits_norm hB v.toNat) h).1.2 i hv, e, upd_same]
          exact hP _ (hB v.toNat).1 (hB v.toNat).2 hk
        · exact absurd e hv
theorem follow_P {P : BdV → Prop} (hP : ∀ b : BdV, b.lo < 18446744073709551616 → b.hi < 18446744073709551616 → okB b = true → P (normB b)) {d : Kd} {vs : List Int} {n : Int} {F : Nat → BdV} {m : Nat} (hm : varsN d = some m) (hl : vs.length = m) (hB : Bits F) (hF : ∀ i, P (F i)) (h : (followF d vs n F).1 = true) : ∀ i, P ((followF d vs n F).2 i) := by
  unfold followF at h ⊢
  cases hr : relF d vs n F with
  | none => rw [hr] at h; cases h
  | some G =>
    rw [hr] at h
    dsimp only at h ⊢
    intro i
    by_cases hv : i ∈ plc vs
    · exact norms_P hP vs G (bits_rel hB hr) h i hv
    · rw [((stp_rel hm hl hr).trans (norms_stp vs G (bits_rel hB hr) h).1).2 i hv]; exact hF i
theorem pass_P {P : BdV → Prop} (hP : ∀ b : BdV, b.lo < 18446744073709551616 → b.hi < 18446744073709551616 → okB b = true → P (normB b)) : ∀ (rs : List RelV) (F : Nat → BdV), (∀ r ∈ rs, ∃ m, varsN r.d = some m ∧ r.vs.length = m) → Fine F → (∀ i, P (F i)) → (passF rs F).1 = true → ∀ i, P ((passF rs F).2 i)
  | [], _, _, _, hF, _ => hF
  | r :: rs, F, hr, hf, hF, h => by
    obtain ⟨m, hm, hl⟩ := hr r List.mem_cons_self
    unfold passF at h ⊢
    by_cases hk : (followF r.d r.vs r.N F).1 = true
    · rw [if_pos hk] at h ⊢
      exact pass_P hP rs _ (fun r' h' => hr r' (List.mem_cons_of_mem _ h')) (follow_stp hm hl hf hk).2 (follow_P hP hm hl hf.bits hF hk) h
    · rw [if_neg hk] at h; cases h
theorem sett_P {P : BdV → Prop} (hP : ∀ b : BdV, b.lo < 18446744073709551616 → b.hi < 18446744073709551616 → okB b = true → P (normB b)) {rs : List RelV} {n : Nat} {F H : Nat → BdV} {b : Bool} (hr : ∀ r ∈ rs, ∃ m, varsN r.d = some m ∧ r.vs.length = m) (s : Sett rs n F b H) : Fine F → (∀ i, P (F i)) → b = true → (∀ i, P (H i)) ∧ (∀ i, nar (H i) (F i)) ∧ Fine H := by
  induction s with
  | fail _ => intro _ _ h; cases h
  | done h1 _ => intro hf hp _; exact ⟨pass_P hP rs _ hr hf hp h1, pass_stp rs _ hr hf h1⟩
  | next h1 _ _ ih =>
    intro hf hp hb
    have p := pass_stp rs _ hr hf h1
    obtain ⟨i1, i2, i3⟩ := ih p.2 (pass_P hP rs _ hr hf hp h1) hb
    exact ⟨i1, fun i => (i2 i).trans (p.1 i), i3⟩
/-- only places of the row change, so what is the same in the row is the same -/
theorem nar.anti {a b : BdV} (h : nar a b) (k : nar b a) : a = b := by
  obtain ⟨h1, h2, h3, h4⟩ := h
  obtain ⟨k1, k2, k3, k4⟩ := k
  cases a; cases b
  simp only at *
  simp only [BdV.mk.injEq]
  omega
theorem pass_off : ∀ (rs : List RelV) (F : Nat → BdV) (n : Nat), (∀ r ∈ rs, relB r.d r.vs n = true) → Fine F → (passF rs F).1 = true → ∀ i, n ≤ i → (passF rs F).2 i = F i
  | [], _, _, _, _, _ => fun _ _ => rfl
  | r :: rs, F, n, hr, hf, h => fun i hi => by
    obtain ⟨m, hm, hl, hin, _⟩ := relV_parts (hr r List.mem_cons_self)
    unfold passF at h ⊢
    by_cases hk : (followF r.d r.vs r.N F).1 = true
    · rw [if_pos hk] at h ⊢
      rw [pass_off rs _ n (fun r' h' => hr r' (List.mem_cons_of_mem _ h')) (follow_stp hm hl hf hk).2 h i hi]
      unfold followF at hk ⊢
      cases hq : relF r.d r.vs r.N F with
      | none => rw [hq] at hk
      | some G =>
        rw [hq] at hk
        dsimp only at hk ⊢
        refine ((stp_rel hm hl hq).trans (norms_stp r.vs G (bits_rel hf.bits hq) hk).1).2 i fun hm' => ?_
        obtain ⟨x, hx, rfl⟩ := List.mem_map.1 hm'
        have := hin x hx
        omega
    · rw [if_neg hk] at h; cases h
/-- where a pass leaves all as it was, each relation does -/
theorem pass_same : ∀ (rs : List RelV) (F : Nat → BdV), (∀ r ∈ rs, ∃ m, varsN r.d = some m ∧ r.vs.length = m) → Fine F → (passF rs F).1 = true → (passF rs F).2 = F → ∀ r ∈ rs, followF r.d r.vs r.N F = (true, F)
  | [], _, _, _, _, _ => fun _ h => absurd h (by simp)
  | r :: rs, F, hr, hf, h, he => by
    obtain ⟨m, hm, hl⟩ := hr r List.mem_cons_self
    unfold passF at h he
    by_cases hk : (followF r.d r.vs r.N F).1 = true
    · rw [if_pos hk] at h he
      have f := follow_stp hm hl hf hk
      have p := pass_stp rs _ (fun r' h' => hr r' (List.mem_cons_of_mem _ h')) f.2 h
      have hFF : (followF r.d r.vs r.N F).2 = F := funext fun i => (f.1 i).anti (by have := p.1 i; rwa [he] at this)
      have h0 : followF r.d r.vs r.N F = (true, F) := Prod.ext hk hFF
      rw [hFF] at h he
      intro r' h'
      rcases List.mem_cons.1 h' with rfl | h'
      · exact h0
      · exact pass_same rs F (fun r2 h2 => hr r2 (List.mem_cons_of_mem _ h2)) hf h he r' h'
    · rw [if_neg hk] at h; cases h
/-- WHERE SETTLING ENDS WELL, NOTHING MORE FOLLOWS -/
theorem sett_end {rs : List RelV} {n : Nat} {F H : Nat → BdV} {b : Bool} (hr : ∀ r ∈ rs, relB r.d r.vs n = true) (s : Sett rs n F b H) : Fine F → b = true → ∀ r ∈ rs, followF r.d r.vs r.N H = (true, H) := by
  have hr' : ∀ r ∈ rs, ∃ m, varsN r.d = some m ∧ r.vs.length = m := fun r h => by
    obtain ⟨m, hm, hl, _⟩ := relV_parts (hr r h)
    exact ⟨m, hm, hl⟩
  induction s with
  | fail _ => intro _ h; cases h
  | done h1 h2 =>
    rename_i F
    intro hf _
    have he : (passF rs F).2 = F := funext fun i => by
      by_cases hi : i < n
      · exact h2 i hi
      · exact pass_off rs F n hr hf h1 i (by omega)
    rw [he]
    exact pass_same rs F hr' hf h1 he
  | next h1 _ _ ih => intro hf hb; exact ih (pass_stp rs _ hr' hf h1).2 hb
end Go.Proofs.YthakhdbakmlooaaDoor

/-
  Plain: where nothing more follows of fixed families, the relation holds.
-/
namespace Go.Proofs.YthakhdbakmlooaaDoor
set_option linter.unusedSimpArgs false
set_option linter.unusedVariables false
open Go Go.RowKit Go.Shelf Go.Ev

theorem Stp.anti {S : List Nat} {F G : Nat → BdV} (h : Stp S F G) (k : Stp S G F) : G = F := funext fun i => (h.1 i).anti (k.1 i)
theorem into_same {F : Nat → BdV} {x s : Nat} (h : intoF F x s = F) (t : Nat) (k : s.testBit t = true) : (F x).lo.testBit t = true := by
  have := congrArg BdV.lo (congrFun h x)
  unfold intoF at this
  rw [upd_same] at this
  dsimp only at this
  rw [← this, Nat.testBit_or, k, Bool.or_true]
theorem out_same {F : Nat → BdV} {x s : Nat} (hs : s < 18446744073709551616) (h : outF F x s = F) (t : Nat) (k : s.testBit t = true) : (F x).hi.testBit t = false := by
  have := congrArg BdV.hi (congrFun h x)
  unfold outF at this
  rw [upd_same] at this
  dsimp only at this
  rw [← this, sub_bit hs, k]
  simp
theorem least_same {F : Nat → BdV} {x : Nat} {k : Int} (h : leastF F x k = F) : k ≤ (F x).mn := by
  have := congrArg BdV.mn (congrFun h x)
  unfold leastF at this
  rw [upd_same] at this
  dsimp only at this
  omega
theorem most_same {F : Nat → BdV} {x : Nat} {k : Int} (h : mostF F x k = F) : (F x).mx ≤ k := by
  have := congrArg BdV.mx (congrFun h x)
  unfold mostF at this
  rw [upd_same] at this
  dsimp only at this
  omega
theorem nt_test {x : Nat} (hx : x < 18446744073709551616) (t : Nat) : (nt x).testBit t = (decide (t < 64) && !x.testBit t) := by
  have e : nt x = 2 ^ 64 - (x + 1) := by
    unfold nt
    have : (2 : Nat) ^ 64 = 18446744073709551616 := by decide
    omega
  rw [e, Nat.testBit_two_pow_sub_succ (show x < 2 ^ 64 from hx)]
theorem big_bit {x t : Nat} (hx : x < 18446744073709551616) (ht : ¬ t < 64) : x.testBit t = false := Nat.testBit_lt_two_pow (Nat.lt_of_lt_of_le hx (Nat.pow_le_pow_right (n := 2) (by decide) (show 64 ≤ t by omega)))
/-- where following leaves all as it was, so does what follows ahead of normalizing -/
theorem follow_rel {d : Kd} {vs : List Int} {N : Int} {F : Nat → BdV} {m : Nat} (hm : varsN d = some m) (hl : vs.length = m) (hB : Bits F) (h : followF d vs N F = (true, F)) : relF d vs N F = some F := by
  unfold followF at h
  cases hr : relF d vs N F with
  | none => rw [hr] at h; cases h
  | some G =>
    rw [hr] at h
    dsimp only at h
    have s1 := stp_rel hm hl hr
    have s2 := (norms_stp vs G (bits_rel hB hr) (by rw [h])).1
    rw [h] at s2
    rw [s1.anti s2]
end Go.Proofs.YthakhdbakmlooaaDoor

/-
  The document's words of sets, in the program's.
-/
namespace Go.Proofs.YthakhdbakmlooaaDoor
set_option linter.unusedSimpArgs false
open Go Go.RowKit Go.Shelf Go.Ev

theorem de1 {a b : Nat} (ha : a < 18446744073709551616) (hb : b < 18446744073709551616) : a &&& b = sub64 a (nt b) := Nat.eq_of_testBit_eq fun t => by
  rw [sub_bit (nt_lt _), nt_test hb, Nat.testBit_and]
  by_cases ht : t < 64
  · simp [ht]
  · rw [big_bit ha ht]; simp
theorem de2 {a b c : Nat} (ha : a < 18446744073709551616) (hb : b < 18446744073709551616) (hc : c < 18446744073709551616) : a &&& (b ||| c) = sub64 a (nt b &&& nt c) := Nat.eq_of_testBit_eq fun t => by
  rw [sub_bit (Nat.lt_of_le_of_lt Nat.and_le_left (nt_lt _)), Nat.testBit_and, Nat.testBit_and, Nat.testBit_or, nt_test hb, nt_test hc]
  by_cases ht : t < 64
  · simp [ht]
  · rw [big_bit ha ht]; simp
theorem de3 {a b c : Nat} (ha : a < 18446744073709551616) (hb : b < 18446744073709551616) (hc : c < 18446744073709551616) : a &&& (b &&& c) = sub64 a (nt b ||| nt c) := Nat.eq_of_testBit_eq fun t => by
  rw [sub_bit (or_lt (nt_lt _) (nt_lt _)), Nat.testBit_and, Nat.testBit_and, Nat.testBit_or, nt_test hb, nt_test hc]
  by_cases ht : t < 64
  · simp [ht]
  · rw [big_bit ha ht]; simp
theorem de4 {a b c : Nat} (ha : a < 18446744073709551616) (hb : b < 18446744073709551616) (hc : c < 18446744073709551616) : a &&& sub64 b c = sub64 a (nt b ||| c) := Nat.eq_of_testBit_eq fun t => by
  rw [sub_bit (or_lt (nt_lt _) hc), Nat.testBit_and, sub_bit hc, Nat.testBit_or, nt_test hb]
  by_cases ht : t < 64
  · simp [ht]
  · rw [big_bit ha ht]; simp
theorem ite_min (a b : Int) : (if b < a then b else a) = min a b := by split <;> omega
theorem ite_max (a b : Int) : (if a < b then b else a) = max a b := by split <;> omega
/-- what the document keeps of a relation, once -/
def kF (d : Kd) (vs : List Int) (n : Int) (F : Nat → BdV) : Nat → BdV :=
  let x := (vs.getD 0 0).toNat
  let y := (vs.getD 1 0).toNat
  let z := (vs.getD 2 0).toNat
  match d with
  | .part => partF F x y
  | .apart => dapartF F x y
  | .union => dunionF F x y z
  | .meet => dmeetF F x y z
  | .minus => minusF F x y z
  | .has => if inR n = true then intoF F x (2 ^ n.toNat) else F
  | .lacks => if inR n = true then outF F x (2 ^ n.toNat) else F
  | .size => mostF (leastF F x n) x n
  | .none => F
def kG (d : Kd) (vs : List Int) (n : Int) (G : Nat → Bool) : Nat → Bool := match d with
  | .has => updG G (vs.getD 0 0).toNat (G (vs.getD 0 0).toNat || !inR n)
  | _ => G
end Go.Proofs.YthakhdbakmlooaaDoor
