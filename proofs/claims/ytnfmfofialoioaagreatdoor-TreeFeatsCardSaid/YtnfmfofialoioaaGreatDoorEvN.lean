/-
  Regions whose order is drawn: what is told of them in one order holds for all of them.
-/
import Derived.Test.YtnfmfofialoioaaGreatDoorEvM
namespace Go.Ev
open Go Go.RowKit

/-! ### the operations, each with those that come ahead of it -/
structure It where
  i : Nat
  o : Oper
  m : Nat
def edgeMask (ms : List Nat) (k : Nat) : List Edge → Nat → Option Nat
  | [], acc => some acc
  | e :: es, acc => if Region.binds .any e then (if Nat.blt e.on k then match nth ms (k - 1 - e.on) with
      | some m => edgeMask ms k es (Nat.lor (Nat.lor acc m) (2 ^ e.on))
      | none => none else none) else edgeMask ms k es acc
def items : List Oper → Nat → List Nat → Option (List It)
  | [], _, _ => some []
  | o :: os, k, ms => match edgeMask ms k o.after.toList 0 with
    | some m => match items os (k + 1) (m :: ms) with
      | some its => some (⟨k, o, m⟩ :: its)
      | none => none
    | none => none

def Closed (all : Array Oper) (L : Nat → Prop) : Prop := ∀ j oj, all[j]? = some oj → L j → ∀ e ∈ oj.after, Region.binds .any e = true → L e.on
structure ItOk (all : Array Oper) (it : It) : Prop where
  at' : all[it.i]? = some it.o
  pred : ∀ e ∈ it.o.after, Region.binds .any e = true → e.on < it.i ∧ Nat.testBit it.m e.on = true
  mask : ∀ L, Closed all L → (∀ e ∈ it.o.after, Region.binds .any e = true → L e.on) → ∀ j, Nat.testBit it.m j = true → L j
structure MaskInv (all : Array Oper) (k : Nat) (ms : List Nat) : Prop where
  len : ms.length = k
  mask : ∀ p m, p < k → nth ms (k - 1 - p) = some m → ∀ L, Closed all L → L p → ∀ j, Nat.testBit m j = true → L j

theorem testBit_lor (a b j : Nat) : Nat.testBit (Nat.lor a b) j = (Nat.testBit a j || Nat.testBit b j) := Nat.testBit_or a b j
theorem edgeMask_ok {all : Array Oper} {ms : List Nat} {k : Nat} (inv : MaskInv all k ms) : ∀ (es : List Edge) (acc m : Nat), edgeMask ms k es acc = some m →
    (∀ j, Nat.testBit acc j = true → Nat.testBit m j = true) ∧ (∀ e ∈ es, Region.binds .any e = true → e.on < k ∧ Nat.testBit m e.on = true) ∧
    (∀ L, Closed all L → (∀ j, Nat.testBit acc j = true → L j) → (∀ e ∈ es, Region.binds .any e = true → L e.on) → ∀ j, Nat.testBit m j = true → L j)
  | [], acc, m, h => by cases h; exact ⟨fun j h => h, fun e he => (by cases he), fun L _ h1 _ => h1⟩
  | e :: es, acc, m, h => by
    simp only [edgeMask] at h
    split at h
    · rename_i hb
      split at h
      · rename_i hlt
        have hlt : e.on < k := Nat.le_of_ble_eq_true hlt
        split at h
        · rename_i me hme
          obtain ⟨h1, h2, h3⟩ := edgeMask_ok inv es _ _ h
          refine ⟨fun j hj => h1 j (by simp [hj]), fun x hx hxb => ?_, fun L hL ha hes j hj => ?_⟩
          · rcases List.mem_cons.1 hx with rfl | hx
            · exact ⟨hlt, h1 _ (by simp)⟩
            · exact h2 x hx hxb
          · refine h3 L hL (fun j hj => ?_) (fun x hx => hes x (List.mem_cons_of_mem _ hx)) j hj
            simp only [testBit_lor, Bool.or_eq_true, Nat.testBit_two_pow, decide_eq_true_eq] at hj
            rcases hj with (hj | hj) | rfl
            · exact ha j hj
            · exact inv.mask e.on me hlt hme L hL (hes e (by simp) hb) j hj
            · exact hes e (by simp) hb
        · cases h
      · cases h
    · rename_i hb
      obtain ⟨h1, h2, h3⟩ := edgeMask_ok inv es _ _ h
      refine ⟨h1, fun x hx hxb => ?_, fun L hL ha hes => h3 L hL ha fun x hx => hes x (List.mem_cons_of_mem _ hx)⟩
      rcases List.mem_cons.1 hx with rfl | hx
      · exact absurd hxb hb
      · exact h2 x hx hxb
theorem items_ok {all : Array Oper} : ∀ (os : List Oper) (k : Nat) (ms : List Nat) (its : List It), (∀ j, os[j]? = all[k + j]?) → MaskInv all k ms → items os k ms = some its →
    (∀ it ∈ its, ItOk all it ∧ k ≤ it.i) ∧ (its.map (·.i)).Nodup ∧ (∀ j, k ≤ j → j < all.size → ∃ it ∈ its, it.i = j)
  | [], k, ms, its, hos, inv, h => by
    cases h
    refine ⟨fun it hit => (by cases hit), by simp, fun j hj hlt => ?_⟩
    have := hos (j - k)
    rw [show k + (j - k) = j by omega] at this
    simp at this
    omega
  | o :: os, k, ms, its, hos, inv, h => by
    simp only [items] at h
    split at h
    · rename_i m hm
      split at h
      · rename_i its' hits
        cases h
        obtain ⟨h1, h2, h3⟩ := edgeMask_ok inv _ _ _ hm
        have ok : ItOk all ⟨k, o, m⟩ := ⟨by simpa using (hos 0).symm, fun e he hb => h2 e (by simpa using he) hb,
          fun L hL hes j hj => h3 L hL (fun j hj => by simp at hj) (fun e he hb => hes e (by simpa using he) hb) j hj⟩
        have inv' : MaskInv all (k + 1) (m :: ms) := ⟨by simp [inv.len], fun p mp hp hn L hL hLp j hj => by
          by_cases hpk : p = k
          · subst hpk
            simp only [Nat.add_sub_cancel, Nat.sub_self, nth] at hn
            cases hn
            exact ok.mask L hL (fun e he hb => hL _ _ ok.at' hLp e he hb) j hj
          · rw [show k + 1 - 1 - p = (k - 1 - p) + 1 by omega] at hn
            exact inv.mask p mp (by omega) hn L hL hLp j hj⟩
        obtain ⟨k1, k2, k3⟩ := items_ok os (k + 1) (m :: ms) its' (fun j => by have := hos (j + 1); simpa [Nat.add_assoc, Nat.add_comm 1 j] using this) inv' hits
        refine ⟨fun it hit => ?_, ?_, fun j hj hlt => ?_⟩
        · rcases List.mem_cons.1 hit with rfl | hit
          · exact ⟨ok, Nat.le_refl _⟩
          · exact ⟨(k1 it hit).1, by have := (k1 it hit).2; omega⟩
        · simp only [List.map_cons, List.nodup_cons]
          refine ⟨fun hk => ?_, k2⟩
          obtain ⟨it, hit, he⟩ := List.mem_map.1 hk
          have := (k1 it hit).2
          omega
        · by_cases hjk : j = k
          · exact ⟨⟨k, o, m⟩, by simp, hjk.symm⟩
          · obtain ⟨it, hit, he⟩ := k3 j (by omega) hlt
            exact ⟨it, List.mem_cons_of_mem _ hit, he⟩
      · cases h
    · cases h

/-! ### what must hold of a region -/
def dmapF : List It → Tr (Nat × Nat) → Tr (Nat × Nat)
  | [], dm => dm
  | x :: xs, dm => dmapF xs (match x.o.dst with | some d => dm.put d (some (x.i, x.m)) | none => dm)
def chkDst (dm : Tr (Nat × Nat)) (x : It) : Bool := match x.o.dst with
  | some d => (match dm.get d with | some (j, m) => Nat.beq j x.i && Nat.beq m x.m | none => false)
  | none => true
/-- What an operation looks at is written ahead of it, or by itself, or behind it. -/
def chkLook (dm : Tr (Nat × Nat)) (x : It) : List Tmp → Bool
  | [] => true
  | t :: ts => (match dm.get t with | some (j, m) => Nat.testBit x.m j || (Nat.beq j x.i || Nat.testBit m x.i) | none => true) && chkLook dm x ts
def chkAll (ops : Array Oper) (dm : Tr (Nat × Nat)) : List It → Bool
  | [] => true
  | x :: xs => chkDst dm x && chkLook dm x (x.o.looksAt ops) && chkAll ops dm xs
structure Good (all : Array Oper) (its : List It) : Prop where
  ok : ∀ x ∈ its, ItOk all x
  nd : (its.map (·.i)).Nodup
  full : ∀ j, j < all.size → ∃ x ∈ its, x.i = j
  uniq : ∀ x ∈ its, ∀ y ∈ its, ∀ d, x.o.dst = some d → y.o.dst = some d → x.i = y.i
  look : ∀ x ∈ its, ∀ y ∈ its, ∀ d, y.o.dst = some d → d ∈ x.o.looksAt all → Nat.testBit x.m y.i = true ∨ y.i = x.i ∨ Nat.testBit y.m x.i = true
def regOf (all : Array Oper) : Option (List It) := match items all.toList 0 [] with
  | some its => if chkAll all (dmapF its .leaf) its then some its else none
  | none => none
theorem chkAll_mem {ops : Array Oper} {dm : Tr (Nat × Nat)} : ∀ {l : List It}, chkAll ops dm l = true → ∀ x ∈ l, chkDst dm x = true ∧ chkLook dm x (x.o.looksAt ops) = true
  | [], _, x, hx => by cases hx
  | y :: l, h, x, hx => by
    simp only [chkAll, Bool.and_eq_true] at h
    rcases List.mem_cons.1 hx with rfl | hx
    · exact h.1
    · exact chkAll_mem h.2 x hx
theorem chkLook_mem {dm : Tr (Nat × Nat)} {x : It} : ∀ {l : List Tmp}, chkLook dm x l = true → ∀ t ∈ l, ∀ j m, dm.get t = some (j, m) → Nat.testBit x.m j = true ∨ j = x.i ∨ Nat.testBit m x.i = true
  | [], _, t, ht, _, _, _ => by cases ht
  | y :: l, h, t, ht, j, m, hj => by
    simp only [chkLook, Bool.and_eq_true] at h
    rcases List.mem_cons.1 ht with rfl | ht
    · have := h.1
      rw [hj] at this
      simp only [Bool.or_eq_true] at this
      rcases this with h | h | h
      · exact .inl h
      · exact .inr (.inl (Nat.eq_of_beq_eq_true h))
      · exact .inr (.inr h)
    · exact chkLook_mem h.2 t ht j m hj
theorem regOf_good {all : Array Oper} {its : List It} (h : regOf all = some its) : Good all its := by
  unfold regOf at h
  split at h
  · rename_i its' hits
    split at h
    · rename_i hc
      cases h
      obtain ⟨h1, h2, h3⟩ := items_ok (all := all) all.toList 0 [] its (fun j => by simp) ⟨rfl, fun p _ hp => absurd hp (Nat.not_lt_zero p)⟩ hits
      have key : ∀ x ∈ its, ∀ d, x.o.dst = some d → (dmapF its .leaf).get d = some (x.i, x.m) := fun x hx d hd => by
        have := (chkAll_mem hc x hx).1
        simp only [chkDst, hd] at this
        split at this
        · rename_i j m hj
          simp only [Bool.and_eq_true] at this
          rw [hj, Nat.eq_of_beq_eq_true this.1, Nat.eq_of_beq_eq_true this.2]
        · cases this
      have hu : ∀ x ∈ its, ∀ y ∈ its, ∀ d, x.o.dst = some d → y.o.dst = some d → x.i = y.i := fun x hx y hy d hd1 hd2 => by
        have e1 := key x hx d hd1
        rw [key y hy d hd2] at e1
        simp only [Option.some.injEq, Prod.mk.injEq] at e1
        exact e1.1.symm
      have hl : ∀ x ∈ its, ∀ y ∈ its, ∀ d, y.o.dst = some d → d ∈ x.o.looksAt all → Nat.testBit x.m y.i = true ∨ y.i = x.i ∨ Nat.testBit y.m x.i = true := fun x hx y hy d hd hl => chkLook_mem (chkAll_mem hc x hx).2 d hl y.i y.m (key y hy d hd)
      exact ⟨fun x hx => (h1 x hx).1, h2, fun j hj => h3 j (Nat.zero_le _) hj, hu, hl⟩
    · cases h
  · cases h
end Go.Ev
