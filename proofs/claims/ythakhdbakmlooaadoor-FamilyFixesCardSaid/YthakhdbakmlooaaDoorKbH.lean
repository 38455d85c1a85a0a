/-
  Rows of bounds brought to normal form one by one: the last step of follow.
-/
import Derived.Test.YthakhdbakmlooaaDoorFkC
import Derived.Test.YthakhdbakmlooaaDoorKbG
namespace Go.Proofs.YthakhdbakmlooaaDoor
set_option linter.unusedSimpArgs false
open Go Go.RowKit Go.Shelf Go.Ev

def okB (b : BdV) : Bool := okN b.lo b.hi b.mn b.mx
def normB (b : BdV) : BdV := ⟨nlo b.lo b.hi b.mn, nhi b.lo b.hi b.mn b.mx, nmn b.lo b.mn, nmx b.hi b.mx⟩
/-- the places of a list are brought to normal form, one by one, until one stands for no set -/
def normsF (F : Nat → BdV) : List Int → Bool × (Nat → BdV)
  | [] => (true, F)
  | v :: vs => if okB (F v.toNat) = true then normsF (upd F v.toNat (normB (F v.toNat))) vs else (false, F)
theorem bits_norm {F : Nat → BdV} (h : Bits F) (x : Nat) : Bits (upd F x (normB (F x))) := h.upd x _ (nlo_lt (h x).1 (h x).2) (nhi_lt (h x).1 (h x).2)
/-- a row normalized at one place -/
theorem normalize_F {g N : Nat} {F : Nat → BdV} (x : Nat) (w : World) (hx : x < N) (h : BRow w g N F) (hB : Bits F) :
    Calls Tryd.prog 37 #[.pointer (some ⟨g, x * 4, none⟩)] w fun e w' => e = .returned (.bool (okB (F x))) ∧ Only g w w' ∧ (okB (F x) = true → BRow w' g N (upd F x (normB (F x)))) :=
  (normalize_row g N F x _ _ _ _ w (h.to hx) (hB x).1 (hB x).2).mono fun _ _ k => ⟨k.1, k.2.1, fun hk => (k.2.2 hk).2⟩
set_option maxRecDepth 100000 in
set_option maxHeartbeats 4000000 in
theorem follow1_any {g N cap lb : Nat} {F : Nat → BdV} (x : Nat) (w : World) (hx : x < N) (h : BRow w g N F) (hB : Bits F) (hl : w.cell? ⟨lb, 0, none⟩ = some (.slice (some ⟨g, 0, none⟩) N cap)) :
    Calls Tryd.prog 96 #[.int .i64 x, .pointer (some ⟨lb, 0, none⟩)] w fun e w' => e = .returned (.bool (!okB (F x))) ∧ Only g w w' ∧ (okB (F x) = true → BRow w' g N (upd F x (normB (F x)))) := by
  have NM := Lib.hid (fun w1 (k : BRow w1 g N F) => normalize_F x w1 hx k hB)
  have HR := Lib.hid h
  have z1 : (x : Int) < (N : Int) := by omega
  have z2 : (0 : Int) ≤ (x : Int) := by omega
  clear h hB
  generalize okB (F x) = K at *
  go_enter Tryd.func96, Tryd.ntmps96
  go_wp2_with (go_at_call 37; refine (NM.out _ HR.out).mono ?_; rintro e w1 ⟨rfl, ho, hk⟩; have OO := Lib.hid ho; have HK := Lib.hid hk; clear ho hk)
  go_ret
  exact ⟨rfl, OO.out, HK.out⟩
theorem normsF_cons_ok {F : Nat → BdV} {v : Int} {vs : List Int} (h : okB (F v.toNat) = true) : normsF F (v :: vs) = normsF (upd F v.toNat (normB (F v.toNat))) vs := by rw [normsF, if_pos h]
theorem normsF_cons_bad {F : Nat → BdV} {v : Int} {vs : List Int} (h : okB (F v.toNat) = false) : normsF F (v :: vs) = (false, F) := by rw [normsF, if_neg (by rw [h]; decide)]
theorem Only.cell {g : Nat} {w w' : World} (h : Only g w w') {b o : Nat} (hb : b ≠ g) : w'.cell? ⟨b, o, none⟩ = w.cell? ⟨b, o, none⟩ := by
  simp only [World.cell?, h.2 b hb]
set_option maxRecDepth 100000 in
set_option maxHeartbeats 4000000 in
theorem indexNorm_any {g N cap lb : Nat} {F : Nat → BdV} (xs : List Int) (A : Option Addr) (c1 : Nat) (w : World) (ha : Ints w A xs) (hx : ∀ x ∈ xs, 0 ≤ x ∧ x < N) (h : BRow w g N F) (hB : Bits F) (hl : w.cell? ⟨lb, 0, none⟩ = some (.slice (some ⟨g, 0, none⟩) N cap)) (hlg : lb ≠ g) (hAg : ∀ b o, A = some ⟨b, o, none⟩ → b ≠ g) :
    Calls Tryd.prog 86 #[.slice A xs.length c1, .func (.func 96) #[] #[.pointer (some ⟨lb, 0, none⟩)]] w fun e w' => ∃ r : Int, e = .returned (.int .i64 r) ∧ decide (0 ≤ r) = !(normsF F xs).1 ∧ Only g w w' ∧ ((normsF F xs).1 = true → BRow w' g N (normsF F xs).2) := by
  have hlx := ha.1
  have HA := Lib.hid ha.2.2
  have C := Lib.hid (fun (x : Nat) (F' : Nat → BdV) (w1 : World) (h0 : x < N) (h1 : BRow w1 g N F') (h2 : Bits F') (h3 : Only g w w1) => follow1_any (cap := cap) (lb := lb) x w1 h0 h1 h2 ((h3.cell hlg).trans hl))
  have HX := Lib.hid hx
  have HG := Lib.hid hAg
  have HB0 := Lib.hid hB
  have HR0 := Lib.hid h
  obtain ⟨R, hR⟩ : ∃ R, normsF F xs = R := ⟨_, rfl⟩
  have RE := Lib.hid hR
  rw [hR]
  clear ha hx hAg hB h hl hR
  go_enter Tryd.func86, Tryd.ntmps86
  go_wp2_with fail
  go_loopw [5, 8] (fun _ i wr => ∃ (k : Nat) (F' : Nat → BdV), k ≤ xs.length ∧ i = .int .i64 k ∧ R = normsF F' (xs.drop k) ∧ BRow wr g N F' ∧ Bits F' ∧ Only g w wr) (fun _ i _ => xs.length - (intOf i).toNat)
  case atStart => exact ⟨0, F, Nat.zero_le _, rfl, by rw [List.drop_zero]; exact RE.out.symm, HR0.out, HB0.out, Only.refl g w⟩
  case round =>
    obtain ⟨k, F', hk, rfl, hd, hr, hbt, ho⟩ := hrel
    have HD := Lib.hid hd
    have HR := Lib.hid hr
    have HT := Lib.hid hbt
    have HO := Lib.hid ho
    clear hd hr hbt ho
    by_cases hlt : k < xs.length
    · obtain ⟨b1, o1, rfl, hb1', g1⟩ := HA.out (by omega)
      have x1 := (HO.out.cell (HG.out b1 o1 rfl)).trans (g1 k hlt)
      have hin := HX.out _ (List.getElem_mem hlt)
      have DR := Lib.hid (show xs.drop k = xs[k] :: xs.drop (k + 1) from List.drop_eq_getElem_cons hlt)
      have z1 : (k : Int) < (xs.length : Int) := by omega
      have z2 : (0 : Int) ≤ (k : Int) := by omega
      generalize xs[k] = x at *
      obtain ⟨t, rfl⟩ : ∃ t : Nat, x = t := ⟨x.toNat, by omega⟩
      have C2 := Lib.hid (C.out t F' wr (by omega) HR.out HT.out HO.out)
      clear g1 HA C
      cases hp : okB (F' t) with
      | true =>
        rw [hp] at C2
        have HD2 := Lib.hid (show R = normsF (upd F' t (normB (F' t))) (xs.drop (k + 1)) from by rw [HD.out, DR.out, normsF_cons_ok (by simpa using hp)]; simp)
        clear hp
        go_wp2_with (go_at_call 96; refine C2.out.mono ?_; rintro e w1 ⟨rfl, ho, hk2⟩; have O1 := Lib.hid (HO.out.trans ho); have K1 := Lib.hid (hk2 rfl); clear ho hk2)
        go_roundw
        case rel => exact ⟨k + 1, _, by omega, by go_num, HD2.out, K1.out, bits_norm HT.out t, O1.out⟩
        case measure => simp [intOf]; omega
      | false =>
        rw [hp] at C2
        have HD2 := Lib.hid (show R.1 = false from by rw [HD.out, DR.out, normsF_cons_bad (by simpa using hp)])
        clear hp
        go_wp2_with (go_at_call 96; refine C2.out.mono ?_; rintro e w1 ⟨rfl, ho, hk2⟩; have O1 := Lib.hid (HO.out.trans ho); clear ho hk2)
        go_ret
        refine ⟨_, rfl, ?_, O1.out, fun e => ?_⟩
        · rw [HD2.out, decide_eq_true (by omega)]; rfl
        · rw [HD2.out] at e; cases e
    · obtain rfl : k = xs.length := by omega
      have HD2 := Lib.hid (show R = (true, F') from by rw [HD.out, List.drop_length]; rfl)
      clear HA C
      go_wp2_with fail
      go_ret
      refine ⟨_, rfl, ?_, HO.out, fun _ => ?_⟩
      · rw [HD2.out, decide_eq_false (by omega)]; rfl
      · rw [HD2.out]; exact HR.out
theorem anyNorm_any {g N cap lb : Nat} {F : Nat → BdV} (xs : List Int) (A : Option Addr) (c1 : Nat) (w : World) (ha : Ints w A xs) (hx : ∀ x ∈ xs, 0 ≤ x ∧ x < N) (h : BRow w g N F) (hB : Bits F) (hl : w.cell? ⟨lb, 0, none⟩ = some (.slice (some ⟨g, 0, none⟩) N cap)) (hlg : lb ≠ g) (hAg : ∀ b o, A = some ⟨b, o, none⟩ → b ≠ g) :
    Calls Tryd.prog 67 #[.slice A xs.length c1, .func (.func 96) #[] #[.pointer (some ⟨lb, 0, none⟩)]] w fun e w' => e = .returned (.bool (!(normsF F xs).1)) ∧ Only g w w' ∧ ((normsF F xs).1 = true → BRow w' g N (normsF F xs).2) := by
  have C := Lib.hid (indexNorm_any xs A c1 w ha hx h hB hl hlg hAg)
  generalize normsF F xs = R at *
  clear ha hx h hB hl hlg hAg
  go_enter Tryd.func67, Tryd.ntmps67
  go_wp2_with (go_at_call 86; refine C.out.mono ?_; rintro e w1 ⟨r, rfl, hr, ho, hk⟩; have HO := Lib.hid ho; have HK := Lib.hid hk; clear ho hk)
  go_ret
  exact ⟨by rw [← hr]; rfl, HO.out, HK.out⟩
end Go.Proofs.YthakhdbakmlooaaDoor

/-
  What follows from one relation: the program's follow, on a row of bounds.
-/
namespace Go.Proofs.YthakhdbakmlooaaDoor
set_option linter.unusedSimpArgs false
open Go Go.RowKit Go.Shelf Go.Ev

/-- what a relation leaves of a row, ahead of normalizing -/
def relF (d : Kd) (vs : List Int) (n : Int) (F : Nat → BdV) : Option (Nat → BdV) :=
  let x := (vs.getD 0 0).toNat
  let y := (vs.getD 1 0).toNat
  let z := (vs.getD 2 0).toNat
  match d with
  | .part => some (partF F x y)
  | .apart => some (apartF F x y)
  | .union => some (unionF F x y z)
  | .meet => some (meetF F x y z)
  | .minus => some (minusF F x y z)
  | .has => if inR n = true then some (intoF F x (2 ^ n.toNat)) else none
  | .lacks => if inR n = true then some (outF F x (2 ^ n.toNat)) else some F
  | .size => some (mostF (leastF F x n) x n)
  | .none => none
def followF (d : Kd) (vs : List Int) (n : Int) (F : Nat → BdV) : Bool × (Nat → BdV) := match relF d vs n F with
  | some F1 => normsF F1 vs
  | none => (false, F)
theorem relV_parts {d : Kd} {vs : List Int} {n : Int} (h : relB d vs n = true) : ∃ m, varsN d = some m ∧ vs.length = m ∧ (∀ x ∈ vs, 0 ≤ x ∧ x < n) ∧ n ≤ 40 := by
  unfold relB at h
  cases hm : varsN d with
  | none => rw [hm] at h; cases h
  | some m =>
    rw [hm] at h
    simp only [Bool.and_eq_true, decide_eq_true_eq, Bool.not_eq_true'] at h
    refine ⟨m, rfl, h.1.1, fun x hx => ?_, h.2⟩
    have := List.any_eq_false.1 h.1.2 x hx
    simp only [outB, Bool.or_eq_true, decide_eq_true_eq, not_or] at this
    omega
theorem bits_part {F : Nat → BdV} (h : Bits F) (x y : Nat) : Bits (partF F x y) :=
  Bits.least (Bits.most (Bits.out (Bits.into h _ _ (h _).1) _ _) _ _) _ _
theorem bits_apart {F : Nat → BdV} (h : Bits F) (x y : Nat) : Bits (apartF F x y) := Bits.out (Bits.out h _ _) _ _
theorem bits_union {F : Nat → BdV} (h : Bits F) (x y z : Nat) : Bits (unionF F x y z) := by
  have e1 : ∀ s, s < 18446744073709551616 → Bits (intoF F z s) := fun s hs => h.into z s hs
  have e4 : ∀ s a b c, s < 18446744073709551616 → Bits (outF (outF (outF (intoF F z s) x a) y b) z c) := fun s a b c hs => ((((e1 s hs).out x a).out y b).out z c)
  have e5 : ∀ G : Nat → BdV, Bits G → Bits (intoF G x (sub64 (G z).lo (G y).hi)) := fun G k => k.into _ _ (sub64_lt (k _).1)
  have e6 : ∀ G : Nat → BdV, Bits G → Bits (intoF G y (sub64 (G z).lo (G x).hi)) := fun G k => k.into _ _ (sub64_lt (k _).1)
  exact Bits.least (Bits.most (e6 _ (e5 _ (e4 _ _ _ _ (or_lt (h x).1 (h y).1)))) _ _) _ _
theorem bits_meet {F : Nat → BdV} (h : Bits F) (x y z : Nat) : Bits (meetF F x y z) := by
  have e1 : Bits (intoF F z ((F x).lo &&& (F y).lo)) := h.into z _ (Nat.lt_of_le_of_lt Nat.and_le_left (h x).1)
  have e2 : ∀ G : Nat → BdV, Bits G → ∀ i j, Bits (intoF G i (G j).lo) := fun G k i j => k.into _ _ (k _).1
  exact Bits.most (Bits.out (Bits.out (Bits.out (e2 _ (e2 _ e1 x z) y z) _ _) _ _) _ _) _ _
theorem bits_minus {F : Nat → BdV} (h : Bits F) (x y z : Nat) : Bits (minusF F x y z) := by
  have e1 : Bits (intoF F z (sub64 (F x).lo (F y).hi)) := h.into z _ (sub64_lt (h x).1)
  have e2 : ∀ G : Nat → BdV, Bits G → ∀ i j, Bits (intoF G i (G j).lo) := fun G k i j => k.into _ _ (k _).1
  have e5 : ∀ G : Nat → BdV, Bits G → Bits (intoF G y (sub64 (G x).lo (G z).hi)) := fun G k => k.into _ _ (sub64_lt (k _).1)
  exact Bits.most (e5 _ (Bits.out (Bits.out (e2 _ e1 x z) _ _) _ _)) _ _
/-- the array of pointers, as far as it is filled -/
def ptA (g : Nat) (vs : List Int) (k j : Nat) : Value := if j < k then .pointer (some ⟨g, (vs.getD j 0).toNat * 4, none⟩) else .pointer none
def ptArr (g : Nat) (vs : List Int) (k : Nat) : Array Value := #[ptA g vs k 0, ptA g vs k 1, ptA g vs k 2]
theorem ptArr_set (g : Nat) (vs : List Int) (k : Nat) (hk : k < 3) : (ptArr g vs k).setIfInBounds k (.pointer (some ⟨g, (vs.getD k 0).toNat * 4, none⟩)) = ptArr g vs (k + 1) := by
  match k, hk with
  | 0, _ => simp [ptArr, ptA]
  | 1, _ => simp [ptArr, ptA]
  | 2, _ => simp [ptArr, ptA]
/-- what follow leaves: the row, if nothing failed -/
def FolRes (R : Bool × (Nat → BdV)) (g n : Nat) (w : World) (e : Ending) (w' : World) : Prop := e = .returned (.bool R.1) ∧ KeptBut g w w' ∧ (R.1 = true → BRow w' g n R.2)
theorem ints_only {g : Nat} {w w' : World} {A : Option Addr} {xs : List Int} (h : Ints w A xs) (k : Only g w w') (hA : ∀ b o, A = some ⟨b, o, none⟩ → b ≠ g) : Ints w' A xs :=
  ⟨h.1, h.2.1, fun hp => by
    obtain ⟨b, off, e, hb, hc⟩ := h.2.2 hp
    exact ⟨b, off, e, Nat.lt_of_lt_of_le hb k.1.size, fun i hi => (k.cell (hA b off e)).trans (hc i hi)⟩⟩
theorem Only.kept {g : Nat} {w w' : World} (h : Only g w w') : KeptBut g w w' := ⟨h.1, fun k _ hn => h.2 k hn⟩
set_option maxRecDepth 100000 in
set_option maxHeartbeats 16000000 in
theorem follow_any (k : ByteArray) (d : Kd) (h : KF k.toList d) (vs : List Int) (N : Int) (A : Option Addr) (c1 cap g n : Nat) (F : Nat → BdV) (w : World) (ha : Ints w A vs) (hrel : relB d vs n = true) (hr : BRow w g n F) (hB : Bits F) (hM : ∀ i, 0 ≤ (F i).mx ∧ (F i).mx ≤ 64) (hAg : ∀ b o, A = some ⟨b, o, none⟩ → b ≠ g) :
    Calls Tryd.prog 82 #[.agg #[.string k, .slice A vs.length c1, .int .i64 N], .slice (some ⟨g, 0, none⟩) n cap] w (FolRes (followF d vs N F) g n w) := by
  obtain ⟨m, hm1, hm2, hin, hn40⟩ := relV_parts hrel
  have hm3 : vs.length ≤ 3 := by cases d <;> simp [varsN] at hm1 <;> omega
  have hm0 : 0 < vs.length := by cases d <;> simp [varsN] at hm1 <;> omega
  have hg : g < w.heap.size := World.rowIs.lt hr
  have HA := Lib.hid ha
  have HIN := Lib.hid hin
  have HR := Lib.hid hr
  have HB := Lib.hid hB
  have HM := Lib.hid hM
  have HAG := Lib.hid hAg
  have HK := Lib.hid h
  have HM1 := Lib.hid (And.intro hm1 hm2)
  have hlv := ha.1
  clear ha hrel hr hB hM hAg h hm1 hm2 hin
  obtain ⟨R, hRR⟩ : ∃ R, followF d vs N F = R := ⟨_, rfl⟩
  have HRR := Lib.hid hRR
  rw [hRR]
  clear hRR
  go_enter Tryd.func82, Tryd.ntmps82
  go_upto_region 1 with fail
  have B0 := Lib.hid (show Below w.heap.size w ((w.alloc (.cells #[.string k, .slice A vs.length c1, .int .i64 N] 38)).alloc (.cells #[.slice (some ⟨g, 0, none⟩) n cap] 80)) from ((Below.refl _ w).alloc (Nat.le_refl _) _).alloc (by simp) _)
  have BX := Lib.hid (show ∀ wx : World, Below (w.heap.size + 2) ((w.alloc (.cells #[.string k, .slice A vs.length c1, .int .i64 N] 38)).alloc (.cells #[.slice (some ⟨g, 0, none⟩) n cap] 80)) wx → wx.cell? ⟨w.heap.size, 0, none⟩ = some (.string k) ∧ wx.cell? ⟨w.heap.size, 1, none⟩ = some (.slice A vs.length c1) ∧ wx.cell? ⟨w.heap.size, 2, none⟩ = some (.int .i64 N) ∧ wx.cell? ⟨w.heap.size + 1, 0, none⟩ = some (.slice (some ⟨g, 0, none⟩) n cap) from fun wx h => by
    have hh := (h.block w.heap.size (by omega)).trans (heap_alloc2_old w (.cells #[.string k, .slice A vs.length c1, .int .i64 N] 38) _)
    have hk := (h.block (w.heap.size + 1) (by omega)).trans (heap_alloc2_new w _ (.cells #[.slice (some ⟨g, 0, none⟩) n cap] 80))
    refine ⟨?_, ?_, ?_, ?_⟩ <;> (simp only [World.cell?, hh, hk]; rfl))
  have hz : ((w.alloc (.cells #[.string k, .slice A vs.length c1, .int .i64 N] 38)).alloc (.cells #[.slice (some ⟨g, 0, none⟩) n cap] 80)).heap.size = w.heap.size + 2 := by simp
  generalize ((w.alloc (.cells #[.string k, .slice A vs.length c1, .int .i64 N] 38)).alloc (.cells #[.slice (some ⟨g, 0, none⟩) n cap] 80)) = W0 at *
  go_upto_region 2 with fail
  have H5 := Lib.hid (show Below (w.heap.size + 2) W0 (W0.alloc (.cells #[.pointer none, .pointer none, .pointer none] 111)) from (Below.refl _ W0).alloc (by omega) _)
  have A0 := Lib.hid (show (W0.alloc (.cells #[.pointer none, .pointer none, .pointer none] 111)).heap[w.heap.size + 2]? = some (.cells (ptArr g vs 0) 111 (0, 0)) from by rw [← hz]; exact heap_alloc_new _ _)
  generalize W0.alloc (.cells #[.pointer none, .pointer none, .pointer none] 111) = W5 at *
  try rw [hz]
  obtain ⟨x0, x1, x2, x3⟩ := BX.out _ H5.out
  go_wp2_with fail
  clear x0 x1 x2 x3
  go_loopw [6, 7, 14] (fun _ _ i wr => ∃ q : Nat, q ≤ vs.length ∧ i = .int .i64 q ∧ wr.heap[w.heap.size + 2]? = some (.cells (ptArr g vs q) 111 (0, 0)) ∧ Below (w.heap.size + 2) W0 wr) (fun _ _ i _ => vs.length - (intOf i).toNat)
  case atStart => exact ⟨0, Nat.zero_le _, rfl, A0.out, H5.out⟩
  case round =>
    obtain ⟨q, hq, rfl, hat, hbw⟩ := hrel
    have HAT := Lib.hid hat
    have HBW := Lib.hid hbw
    have BW := Lib.hid (show Below w.heap.size w wr from B0.out.trans (hbw.mono (by omega)))
    obtain ⟨x0, x1, x2, x3⟩ := BX.out _ hbw
    clear hat hbw
    by_cases hlt : q < vs.length
    · obtain ⟨b1, o1, rfl, hb1', g1⟩ := HA.out.2.2 hm0
      have c1 := (BW.out.cell (p := ⟨b1, o1 + q, none⟩) hb1').trans (g1 q hlt)
      have hi := HIN.out _ (List.getElem_mem hlt)
      have EG := Lib.hid (show vs.getD q 0 = vs[q] by simp [List.getD_eq_getElem?_getD, List.getElem?_eq_getElem hlt])
      have hq3 : q < 3 := by omega
      generalize vs[q] = x at *
      obtain ⟨t, rfl⟩ : ∃ t : Nat, x = t := ⟨x.toNat, by omega⟩
      have z1 : (q : Int) < (vs.length : Int) := by omega
      have z2 : (0 : Int) ≤ (q : Int) := by omega
      have z3 : (q : Int) < 3 := by omega
      have z4 : (t : Int) < (n : Int) := by omega
      have z5 : (0 : Int) ≤ (t : Int) := by omega
      have hsome : ∃ u, wr.cell? ⟨w.heap.size + 2, q, none⟩ = some u := by
        refine ⟨(ptArr g vs q)[q]'(by simp [ptArr]; omega), ?_⟩
        simp only [World.cell?, HAT.out]
        exact Array.getElem?_eq_getElem _
      obtain ⟨u, hu⟩ := hsome
      have f0 : wr.frozen? ⟨w.heap.size + 2, q, none⟩ = false := by simp [World.frozen?, HAT.out]
      clear g1
      go_wp2_with fail
      go_roundw
      case rel =>
        refine ⟨q + 1, by omega, by go_num, ?_, HBW.out.setCell (p := ⟨w.heap.size + 2, q, none⟩) (Nat.le_refl _) _⟩
        have h5 := heap_setCell_same _ (w.heap.size + 2) q _ _ (.pointer (some ⟨g, t * 4, none⟩)) HAT.out
        have h6 := ptArr_set g vs q hq3
        rw [EG.out, Int.toNat_natCast] at h6
        rw [h6] at h5
        exact h5
      case measure => simp [intOf]; omega
    · obtain rfl : q = vs.length := by omega
      go_wp2_with fail
      have HRW := Lib.hid (HR.out.at (BW.out.block g hg))
      have HAW := Lib.hid (HA.out.over BW.out)
      have KW := Lib.hid (KeptBut.of_below BW.out (Nat.le_of_lt hg))
      have P0 := Lib.hid (show ∀ j, j < vs.length → ptA g vs vs.length j = .pointer (some ⟨g, (vs.getD j 0).toNat * 4, none⟩) from fun j hj => if_pos hj)
      have P1 := Lib.hid (show ∀ j, ¬ j < vs.length → ptA g vs vs.length j = .pointer none from fun j hj => if_neg hj)
      have XN := Lib.hid (show ∀ j, j < vs.length → (vs.getD j 0).toNat < n from fun j hj => by
        have e : vs.getD j 0 = vs[j] := by simp [List.getD_eq_getElem?_getD, List.getElem?_eq_getElem hj]
        have := HIN.out _ (List.getElem_mem hj)
        rw [e]; omega)
      have e0 : wr.cell? ⟨w.heap.size + 2, 0, none⟩ = some (ptA g vs vs.length 0) := by simp only [World.cell?, HAT.out]; rfl
      have e1 : wr.cell? ⟨w.heap.size + 2, 1, none⟩ = some (ptA g vs vs.length 1) := by simp only [World.cell?, HAT.out]; rfl
      have e2 : wr.cell? ⟨w.heap.size + 2, 2, none⟩ = some (ptA g vs vs.length 2) := by simp only [World.cell?, HAT.out]; rfl
      rw [P0.out 0 hm0] at e0
      have hx := XN.out 0 hm0
      obtain ⟨h0, h1, h2, h3, h4, h5, h6, h7⟩ := HK.out
      obtain ⟨hmm1, hmm2⟩ := HM1.out
      obtain ⟨X, hX⟩ : ∃ X, (vs.getD 0 0).toNat = X := ⟨_, rfl⟩
      obtain ⟨Y, hY⟩ : ∃ Y, (vs.getD 1 0).toNat = Y := ⟨_, rfl⟩
      obtain ⟨Z, hZ⟩ : ∃ Z, (vs.getD 2 0).toNat = Z := ⟨_, rfl⟩
      unfold followF relF at HRR
      rw [hX, hY, hZ] at HRR
      rw [hX] at e0 hx
      have XY := Lib.hid (show 1 < vs.length → ptA g vs vs.length 1 = .pointer (some ⟨g, Y * 4, none⟩) ∧ Y < n from fun h => by rw [← hY]; exact ⟨P0.out 1 h, XN.out 1 h⟩)
      have XZ := Lib.hid (show 2 < vs.length → ptA g vs vs.length 2 = .pointer (some ⟨g, Z * 4, none⟩) ∧ Z < n from fun h => by rw [← hZ]; exact ⟨P0.out 2 h, XN.out 2 h⟩)
      have XN1 := Lib.hid (P1.out 1)
      have XN2 := Lib.hid (P1.out 2)
      clear hX hY hZ P0 P1 XN HAT
      cases d with
      | part =>
        injection hmm1 with hmm1
        have hlen := Lib.hid (show vs.length = 2 by omega)
        clear hmm1 hmm2 HM1 HK
        obtain ⟨e1', hy⟩ := XY.out (by have := hlen.out; omega)
        rw [e1'] at e1
        clear e1'
        rw [XN2.out (by have := hlen.out; omega)] at e2
        refine wp_region_held_drew (S := fun (wx : World) => wx.cell? ⟨w.heap.size + 2, 0, none⟩ = some (Value.pointer (some ⟨g, X * 4, none⟩)) ∧ wx.cell? ⟨w.heap.size + 2, 1, none⟩ = some (Value.pointer (some ⟨g, Y * 4, none⟩)) ∧ wx.cell? ⟨w.heap.size + 2, 2, none⟩ = some (Value.pointer none)) (by kernel_rfl) ⟨e0, e1, e2⟩ (fun hHeld => ?_)
        have HRD := Lib.hid (show BRow wr.drew g n F from HRW.out)
        have HAD := Lib.hid (HAW.out.over ((Below.refl _ wr).drew))
        have KD := Lib.hid (KW.out.trans (KeptBut.of_below ((Below.refl wr.heap.size wr).drew) (by have := World.rowIs.lt HRW.out; omega)))
        replace x0 : wr.drew.cell? ⟨w.heap.size, 0, none⟩ = some (.string k) := x0
        replace x1 : wr.drew.cell? ⟨w.heap.size, 1, none⟩ = some (.slice A vs.length c1) := x1
        replace x2 : wr.drew.cell? ⟨w.heap.size, 2, none⟩ = some (.int .i64 N) := x2
        replace x3 : wr.drew.cell? ⟨w.heap.size + 1, 0, none⟩ = some (.slice (some ⟨g, 0, none⟩) n cap) := x3
        clear e0 e1 e2 HRW HAW KW
        generalize wr.drew = V at *
        refine wpAnyH_take (i := 0) (oi := ⟨some 25, .indexAddr 111 (.tmp 5) (.const (Value.int IntKind.i64 0)), 0, "fix.go:52", #[], none⟩) (v := ?vn1k0) rfl (by kernel_rfl) (by kernel_rfl) (by kernel_rfl) (fun _ _ _ h => h) (Or.inl ⟨by kernel_rfl, ?yn1k0⟩) (by assumption) ?rn1k0
        case yn1k0 => intro w hSw; (try dsimp only at hSw); go_simp; try with_reducible rfl
        try simp only [Act.put, List.setIfInBounds_toArray, List.set_cons_zero, List.set_cons_succ]
        refine wpAnyH_take (i := 1) (oi := ⟨some 26, .load 90 (.tmp 25), 90, "fix.go:52", #[⟨0, .data⟩], none⟩) (v := ?vn2k1) rfl (by kernel_rfl) (by kernel_rfl) (by kernel_rfl) (fun _ _ _ h => h) (Or.inl ⟨by kernel_rfl, ?yn2k1⟩) (by assumption) ?rn2k1
        case yn2k1 => intro w hSw; (try dsimp only at hSw); go_simp; try with_reducible rfl
        try simp only [Act.put, List.setIfInBounds_toArray, List.set_cons_zero, List.set_cons_succ]
        refine wpAnyH_take (i := 2) (oi := ⟨some 27, .indexAddr 111 (.tmp 5) (.const (Value.int IntKind.i64 1)), 0, "fix.go:52", #[{ on := 6, ground := Ground.gcOnly Departure.lateStores }], none⟩) (v := ?vn3k2) rfl (by kernel_rfl) (by kernel_rfl) (by kernel_rfl) (fun _ _ _ h => h) (Or.inl ⟨by kernel_rfl, ?yn3k2⟩) (by assumption) ?rn3k2
        case yn3k2 => intro w hSw; (try dsimp only at hSw); go_simp; try with_reducible rfl
        try simp only [Act.put, List.setIfInBounds_toArray, List.set_cons_zero, List.set_cons_succ]
        refine wpAnyH_take (i := 3) (oi := ⟨some 28, .load 90 (.tmp 27), 90, "fix.go:52", #[⟨2, .data⟩, { on := 6, ground := Ground.gcOnly Departure.lateStores }], none⟩) (v := ?vn4k3) rfl (by kernel_rfl) (by kernel_rfl) (by kernel_rfl) (fun _ _ _ h => h) (Or.inl ⟨by kernel_rfl, ?yn4k3⟩) (by assumption) ?rn4k3
        case yn4k3 => intro w hSw; (try dsimp only at hSw); go_simp; try with_reducible rfl
        try simp only [Act.put, List.setIfInBounds_toArray, List.set_cons_zero, List.set_cons_succ]
        refine wpAnyH_take (i := 4) (oi := ⟨some 29, .indexAddr 111 (.tmp 5) (.const (Value.int IntKind.i64 2)), 0, "fix.go:52", #[{ on := 7, ground := Ground.gcOnly Departure.lateStores }], none⟩) (v := ?vn5k4) rfl (by kernel_rfl) (by kernel_rfl) (by kernel_rfl) (fun _ _ _ h => h) (Or.inl ⟨by kernel_rfl, ?yn5k4⟩) (by assumption) ?rn5k4
        case yn5k4 => intro w hSw; (try dsimp only at hSw); go_simp; try with_reducible rfl
        try simp only [Act.put, List.setIfInBounds_toArray, List.set_cons_zero, List.set_cons_succ]
        refine wpAnyH_take (i := 5) (oi := ⟨some 30, .load 90 (.tmp 29), 90, "fix.go:52", #[⟨4, .data⟩, { on := 7, ground := Ground.gcOnly Departure.lateStores }], none⟩) (v := ?vn6k5) rfl (by kernel_rfl) (by kernel_rfl) (by kernel_rfl) (fun _ _ _ h => h) (Or.inl ⟨by kernel_rfl, ?yn6k5⟩) (by assumption) ?rn6k5
        case yn6k5 => intro w hSw; (try dsimp only at hSw); go_simp; try with_reducible rfl
        try simp only [Act.put, List.setIfInBounds_toArray, List.set_cons_zero, List.set_cons_succ]
        refine wpAnyH_take (i := 6) (oi := ⟨some 8, .assign (.tmp 26), 90, "fix.go:52", #[⟨1, .data⟩, ⟨0, .phase⟩, ⟨1, .phase⟩, { on := 2, ground := Ground.textOnly Departure.lateStores }, { on := 3, ground := Ground.textOnly Departure.lateStores }, { on := 4, ground := Ground.textOnly Departure.lateStores }, { on := 5, ground := Ground.textOnly Departure.lateStores }], none⟩) (v := ?vn7k6) rfl (by kernel_rfl) (by kernel_rfl) (by kernel_rfl) (fun _ _ _ h => h) (Or.inl ⟨by kernel_rfl, ?yn7k6⟩) (by assumption) ?rn7k6
        case yn7k6 => intro w hSw; (try dsimp only at hSw); go_simp; try with_reducible rfl
        try simp only [Act.put, List.setIfInBounds_toArray, List.set_cons_zero, List.set_cons_succ]
        refine wpAnyH_take (i := 7) (oi := ⟨some 9, .assign (.tmp 28), 90, "fix.go:52", #[⟨3, .data⟩, ⟨6, .chain⟩, ⟨0, .phase⟩, ⟨1, .phase⟩, ⟨2, .phase⟩, ⟨3, .phase⟩, { on := 4, ground := Ground.textOnly Departure.lateStores }, { on := 5, ground := Ground.textOnly Departure.lateStores }, ⟨6, .phase⟩], none⟩) (v := ?vn8k7) rfl (by kernel_rfl) (by kernel_rfl) (by kernel_rfl) (fun _ _ _ h => h) (Or.inl ⟨by kernel_rfl, ?yn8k7⟩) (by assumption) ?rn8k7
        case yn8k7 => intro w hSw; (try dsimp only at hSw); go_simp; try with_reducible rfl
        try simp only [Act.put, List.setIfInBounds_toArray, List.set_cons_zero, List.set_cons_succ]
        refine wpAnyH_take (i := 8) (oi := ⟨some 10, .assign (.tmp 30), 90, "fix.go:52", #[⟨5, .data⟩, ⟨7, .chain⟩, ⟨0, .phase⟩, ⟨1, .phase⟩, ⟨2, .phase⟩, ⟨3, .phase⟩, ⟨4, .phase⟩, ⟨5, .phase⟩, ⟨6, .phase⟩, ⟨7, .phase⟩], none⟩) (v := ?vn9k8) rfl (by kernel_rfl) (by kernel_rfl) (by kernel_rfl) (fun _ _ _ h => h) (Or.inl ⟨by kernel_rfl, ?yn9k8⟩) (by assumption) ?rn9k8
        case yn9k8 => intro w hSw; (try dsimp only at hSw); go_simp; try with_reducible rfl
        try simp only [Act.put, List.setIfInBounds_toArray, List.set_cons_zero, List.set_cons_succ]
        refine wpAnyH_done (by kernel_rfl) ?_ _
        clear hHeld
        simp only [Kd.is] at h0 h1 h2 h3 h4 h5 h6 h7
        have ER := Lib.hid (show normsF (partF F X Y) vs = R from HRR.out)
        go_wp2_with (first | (go_at_call 91; refine (part_F X Y _ hx hy HRD.out HB.out).mono ?_; rintro e w6 ⟨rfl, hr, ho⟩; have R1 := Lib.hid hr; have O1 := Lib.hid ho; have y1 := (ho.cell (b := w.heap.size) (o := 1) (by omega)).trans x1; have y3 := (ho.cell (b := w.heap.size + 1) (o := 0) (by omega)).trans x3; clear hr ho) | (go_at_call 67; refine (anyNorm_any (cap := cap) (lb := w.heap.size + 1) vs A c1 _ (ints_only HAD.out O1.out HAG.out) HIN.out R1.out (bits_part HB.out X Y) ((O1.out.cell (by omega)).trans x3) (by omega) HAG.out).mono ?_; rw [ER.out]; rintro e w7 ⟨rfl, ho, hk⟩; have K7 := Lib.hid ((KD.out.trans O1.out.kept).trans ho.kept); have HK7 := Lib.hid hk; clear ho hk))
        go_ret
        exact ⟨by simp, K7.out, HK7.out⟩
      | apart =>
        injection hmm1 with hmm1
        have hlen := Lib.hid (show vs.length = 2 by omega)
        clear hmm1 hmm2 HM1 HK
        obtain ⟨e1', hy⟩ := XY.out (by have := hlen.out; omega)
        rw [e1'] at e1
        clear e1'
        rw [XN2.out (by have := hlen.out; omega)] at e2
        refine wp_region_held_drew (S := fun (wx : World) => wx.cell? ⟨w.heap.size + 2, 0, none⟩ = some (Value.pointer (some ⟨g, X * 4, none⟩)) ∧ wx.cell? ⟨w.heap.size + 2, 1, none⟩ = some (Value.pointer (some ⟨g, Y * 4, none⟩)) ∧ wx.cell? ⟨w.heap.size + 2, 2, none⟩ = some (Value.pointer none)) (by kernel_rfl) ⟨e0, e1, e2⟩ (fun hHeld => ?_)
        have HRD := Lib.hid (show BRow wr.drew g n F from HRW.out)
        have HAD := Lib.hid (HAW.out.over ((Below.refl _ wr).drew))
        have KD := Lib.hid (KW.out.trans (KeptBut.of_below ((Below.refl wr.heap.size wr).drew) (by have := World.rowIs.lt HRW.out; omega)))
        replace x0 : wr.drew.cell? ⟨w.heap.size, 0, none⟩ = some (.string k) := x0
        replace x1 : wr.drew.cell? ⟨w.heap.size, 1, none⟩ = some (.slice A vs.length c1) := x1
        replace x2 : wr.drew.cell? ⟨w.heap.size, 2, none⟩ = some (.int .i64 N) := x2
        replace x3 : wr.drew.cell? ⟨w.heap.size + 1, 0, none⟩ = some (.slice (some ⟨g, 0, none⟩) n cap) := x3
        clear e0 e1 e2 HRW HAW KW
        generalize wr.drew = V at *
        refine wpAnyH_take (i := 0) (oi := ⟨some 25, .indexAddr 111 (.tmp 5) (.const (Value.int IntKind.i64 0)), 0, "fix.go:52", #[], none⟩) (v := ?vn10k0) rfl (by kernel_rfl) (by kernel_rfl) (by kernel_rfl) (fun _ _ _ h => h) (Or.inl ⟨by kernel_rfl, ?yn10k0⟩) (by assumption) ?rn10k0
        case yn10k0 => intro w hSw; (try dsimp only at hSw); go_simp; try with_reducible rfl
        try simp only [Act.put, List.setIfInBounds_toArray, List.set_cons_zero, List.set_cons_succ]
        refine wpAnyH_take (i := 1) (oi := ⟨some 26, .load 90 (.tmp 25), 90, "fix.go:52", #[⟨0, .data⟩], none⟩) (v := ?vn11k1) rfl (by kernel_rfl) (by kernel_rfl) (by kernel_rfl) (fun _ _ _ h => h) (Or.inl ⟨by kernel_rfl, ?yn11k1⟩) (by assumption) ?rn11k1
        case yn11k1 => intro w hSw; (try dsimp only at hSw); go_simp; try with_reducible rfl
        try simp only [Act.put, List.setIfInBounds_toArray, List.set_cons_zero, List.set_cons_succ]
        refine wpAnyH_take (i := 2) (oi := ⟨some 27, .indexAddr 111 (.tmp 5) (.const (Value.int IntKind.i64 1)), 0, "fix.go:52", #[{ on := 6, ground := Ground.gcOnly Departure.lateStores }], none⟩) (v := ?vn12k2) rfl (by kernel_rfl) (by kernel_rfl) (by kernel_rfl) (fun _ _ _ h => h) (Or.inl ⟨by kernel_rfl, ?yn12k2⟩) (by assumption) ?rn12k2
        case yn12k2 => intro w hSw; (try dsimp only at hSw); go_simp; try with_reducible rfl
        try simp only [Act.put, List.setIfInBounds_toArray, List.set_cons_zero, List.set_cons_succ]
        refine wpAnyH_take (i := 3) (oi := ⟨some 28, .load 90 (.tmp 27), 90, "fix.go:52", #[⟨2, .data⟩, { on := 6, ground := Ground.gcOnly Departure.lateStores }], none⟩) (v := ?vn13k3) rfl (by kernel_rfl) (by kernel_rfl) (by kernel_rfl) (fun _ _ _ h => h) (Or.inl ⟨by kernel_rfl, ?yn13k3⟩) (by assumption) ?rn13k3
        case yn13k3 => intro w hSw; (try dsimp only at hSw); go_simp; try with_reducible rfl
        try simp only [Act.put, List.setIfInBounds_toArray, List.set_cons_zero, List.set_cons_succ]
        refine wpAnyH_take (i := 4) (oi := ⟨some 29, .indexAddr 111 (.tmp 5) (.const (Value.int IntKind.i64 2)), 0, "fix.go:52", #[{ on := 7, ground := Ground.gcOnly Departure.lateStores }], none⟩) (v := ?vn14k4) rfl (by kernel_rfl) (by kernel_rfl) (by kernel_rfl) (fun _ _ _ h => h) (Or.inl ⟨by kernel_rfl, ?yn14k4⟩) (by assumption) ?rn14k4
        case yn14k4 => intro w hSw; (try dsimp only at hSw); go_simp; try with_reducible rfl
        try simp only [Act.put, List.setIfInBounds_toArray, List.set_cons_zero, List.set_cons_succ]
        refine wpAnyH_take (i := 5) (oi := ⟨some 30, .load 90 (.tmp 29), 90, "fix.go:52", #[⟨4, .data⟩, { on := 7, ground := Ground.gcOnly Departure.lateStores }], none⟩) (v := ?vn15k5) rfl (by kernel_rfl) (by kernel_rfl) (by kernel_rfl) (fun _ _ _ h => h) (Or.inl ⟨by kernel_rfl, ?yn15k5⟩) (by assumption) ?rn15k5
        case yn15k5 => intro w hSw; (try dsimp only at hSw); go_simp; try with_reducible rfl
        try simp only [Act.put, List.setIfInBounds_toArray, List.set_cons_zero, List.set_cons_succ]
        refine wpAnyH_take (i := 6) (oi := ⟨some 8, .assign (.tmp 26), 90, "fix.go:52", #[⟨1, .data⟩, ⟨0, .phase⟩, ⟨1, .phase⟩, { on := 2, ground := Ground.textOnly Departure.lateStores }, { on := 3, ground := Ground.textOnly Departure.lateStores }, { on := 4, ground := Ground.textOnly Departure.lateStores }, { on := 5, ground := Ground.textOnly Departure.lateStores }], none⟩) (v := ?vn16k6) rfl (by kernel_rfl) (by kernel_rfl) (by kernel_rfl) (fun _ _ _ h => h) (Or.inl ⟨by kernel_rfl, ?yn16k6⟩) (by assumption) ?rn16k6
        case yn16k6 => intro w hSw; (try dsimp only at hSw); go_simp; try with_reducible rfl
        try simp only [Act.put, List.setIfInBounds_toArray, List.set_cons_zero, List.set_cons_succ]
        refine wpAnyH_take (i := 7) (oi := ⟨some 9, .assign (.tmp 28), 90, "fix.go:52", #[⟨3, .data⟩, ⟨6, .chain⟩, ⟨0, .phase⟩, ⟨1, .phase⟩, ⟨2, .phase⟩, ⟨3, .phase⟩, { on := 4, ground := Ground.textOnly Departure.lateStores }, { on := 5, ground := Ground.textOnly Departure.lateStores }, ⟨6, .phase⟩], none⟩) (v := ?vn17k7) rfl (by kernel_rfl) (by kernel_rfl) (by kernel_rfl) (fun _ _ _ h => h) (Or.inl ⟨by kernel_rfl, ?yn17k7⟩) (by assumption) ?rn17k7
        case yn17k7 => intro w hSw; (try dsimp only at hSw); go_simp; try with_reducible rfl
        try simp only [Act.put, List.setIfInBounds_toArray, List.set_cons_zero, List.set_cons_succ]
        refine wpAnyH_take (i := 8) (oi := ⟨some 10, .assign (.tmp 30), 90, "fix.go:52", #[⟨5, .data⟩, ⟨7, .chain⟩, ⟨0, .phase⟩, ⟨1, .phase⟩, ⟨2, .phase⟩, ⟨3, .phase⟩, ⟨4, .phase⟩, ⟨5, .phase⟩, ⟨6, .phase⟩, ⟨7, .phase⟩], none⟩) (v := ?vn18k8) rfl (by kernel_rfl) (by kernel_rfl) (by kernel_rfl) (fun _ _ _ h => h) (Or.inl ⟨by kernel_rfl, ?yn18k8⟩) (by assumption) ?rn18k8
        case yn18k8 => intro w hSw; (try dsimp only at hSw); go_simp; try with_reducible rfl
        try simp only [Act.put, List.setIfInBounds_toArray, List.set_cons_zero, List.set_cons_succ]
        refine wpAnyH_done (by kernel_rfl) ?_ _
        clear hHeld
        simp only [Kd.is] at h0 h1 h2 h3 h4 h5 h6 h7
        have ER := Lib.hid (show normsF (apartF F X Y) vs = R from HRR.out)
        go_wp2_with (first | (go_at_call 92; refine (apart_F X Y _ hx hy HRD.out HB.out).mono ?_; rintro e w6 ⟨rfl, hr, ho⟩; have R1 := Lib.hid hr; have O1 := Lib.hid ho; have y1 := (ho.cell (b := w.heap.size) (o := 1) (by omega)).trans x1; have y3 := (ho.cell (b := w.heap.size + 1) (o := 0) (by omega)).trans x3; clear hr ho) | (go_at_call 67; refine (anyNorm_any (cap := cap) (lb := w.heap.size + 1) vs A c1 _ (ints_only HAD.out O1.out HAG.out) HIN.out R1.out (bits_apart HB.out X Y) ((O1.out.cell (by omega)).trans x3) (by omega) HAG.out).mono ?_; rw [ER.out]; rintro e w7 ⟨rfl, ho, hk⟩; have K7 := Lib.hid ((KD.out.trans O1.out.kept).trans ho.kept); have HK7 := Lib.hid hk; clear ho hk))
        go_ret
        exact ⟨by simp, K7.out, HK7.out⟩
      | union =>
        injection hmm1 with hmm1
        have hlen := Lib.hid (show vs.length = 3 by omega)
        clear hmm1 hmm2 HM1 HK
        obtain ⟨e1', hy⟩ := XY.out (by have := hlen.out; omega)
        rw [e1'] at e1
        clear e1'
        obtain ⟨e2', hz'⟩ := XZ.out (by have := hlen.out; omega)
        rw [e2'] at e2
        clear e2'
        refine wp_region_held_drew (S := fun (wx : World) => wx.cell? ⟨w.heap.size + 2, 0, none⟩ = some (Value.pointer (some ⟨g, X * 4, none⟩)) ∧ wx.cell? ⟨w.heap.size + 2, 1, none⟩ = some (Value.pointer (some ⟨g, Y * 4, none⟩)) ∧ wx.cell? ⟨w.heap.size + 2, 2, none⟩ = some (Value.pointer (some ⟨g, Z * 4, none⟩))) (by kernel_rfl) ⟨e0, e1, e2⟩ (fun hHeld => ?_)
        have HRD := Lib.hid (show BRow wr.drew g n F from HRW.out)
        have HAD := Lib.hid (HAW.out.over ((Below.refl _ wr).drew))
        have KD := Lib.hid (KW.out.trans (KeptBut.of_below ((Below.refl wr.heap.size wr).drew) (by have := World.rowIs.lt HRW.out; omega)))
        replace x0 : wr.drew.cell? ⟨w.heap.size, 0, none⟩ = some (.string k) := x0
        replace x1 : wr.drew.cell? ⟨w.heap.size, 1, none⟩ = some (.slice A vs.length c1) := x1
        replace x2 : wr.drew.cell? ⟨w.heap.size, 2, none⟩ = some (.int .i64 N) := x2
        replace x3 : wr.drew.cell? ⟨w.heap.size + 1, 0, none⟩ = some (.slice (some ⟨g, 0, none⟩) n cap) := x3
        clear e0 e1 e2 HRW HAW KW
        generalize wr.drew = V at *
        refine wpAnyH_take (i := 0) (oi := ⟨some 25, .indexAddr 111 (.tmp 5) (.const (Value.int IntKind.i64 0)), 0, "fix.go:52", #[], none⟩) (v := ?vn19k0) rfl (by kernel_rfl) (by kernel_rfl) (by kernel_rfl) (fun _ _ _ h => h) (Or.inl ⟨by kernel_rfl, ?yn19k0⟩) (by assumption) ?rn19k0
        case yn19k0 => intro w hSw; (try dsimp only at hSw); go_simp; try with_reducible rfl
        try simp only [Act.put, List.setIfInBounds_toArray, List.set_cons_zero, List.set_cons_succ]
        refine wpAnyH_take (i := 1) (oi := ⟨some 26, .load 90 (.tmp 25), 90, "fix.go:52", #[⟨0, .data⟩], none⟩) (v := ?vn20k1) rfl (by kernel_rfl) (by kernel_rfl) (by kernel_rfl) (fun _ _ _ h => h) (Or.inl ⟨by kernel_rfl, ?yn20k1⟩) (by assumption) ?rn20k1
        case yn20k1 => intro w hSw; (try dsimp only at hSw); go_simp; try with_reducible rfl
        try simp only [Act.put, List.setIfInBounds_toArray, List.set_cons_zero, List.set_cons_succ]
        refine wpAnyH_take (i := 2) (oi := ⟨some 27, .indexAddr 111 (.tmp 5) (.const (Value.int IntKind.i64 1)), 0, "fix.go:52", #[{ on := 6, ground := Ground.gcOnly Departure.lateStores }], none⟩) (v := ?vn21k2) rfl (by kernel_rfl) (by kernel_rfl) (by kernel_rfl) (fun _ _ _ h => h) (Or.inl ⟨by kernel_rfl, ?yn21k2⟩) (by assumption) ?rn21k2
        case yn21k2 => intro w hSw; (try dsimp only at hSw); go_simp; try with_reducible rfl
        try simp only [Act.put, List.setIfInBounds_toArray, List.set_cons_zero, List.set_cons_succ]
        refine wpAnyH_take (i := 3) (oi := ⟨some 28, .load 90 (.tmp 27), 90, "fix.go:52", #[⟨2, .data⟩, { on := 6, ground := Ground.gcOnly Departure.lateStores }], none⟩) (v := ?vn22k3) rfl (by kernel_rfl) (by kernel_rfl) (by kernel_rfl) (fun _ _ _ h => h) (Or.inl ⟨by kernel_rfl, ?yn22k3⟩) (by assumption) ?rn22k3
        case yn22k3 => intro w hSw; (try dsimp only at hSw); go_simp; try with_reducible rfl
        try simp only [Act.put, List.setIfInBounds_toArray, List.set_cons_zero, List.set_cons_succ]
        refine wpAnyH_take (i := 4) (oi := ⟨some 29, .indexAddr 111 (.tmp 5) (.const (Value.int IntKind.i64 2)), 0, "fix.go:52", #[{ on := 7, ground := Ground.gcOnly Departure.lateStores }], none⟩) (v := ?vn23k4) rfl (by kernel_rfl) (by kernel_rfl) (by kernel_rfl) (fun _ _ _ h => h) (Or.inl ⟨by kernel_rfl, ?yn23k4⟩) (by assumption) ?rn23k4
        case yn23k4 => intro w hSw; (try dsimp only at hSw); go_simp; try with_reducible rfl
        try simp only [Act.put, List.setIfInBounds_toArray, List.set_cons_zero, List.set_cons_succ]
        refine wpAnyH_take (i := 5) (oi := ⟨some 30, .load 90 (.tmp 29), 90, "fix.go:52", #[⟨4, .data⟩, { on := 7, ground := Ground.gcOnly Departure.lateStores }], none⟩) (v := ?vn24k5) rfl (by kernel_rfl) (by kernel_rfl) (by kernel_rfl) (fun _ _ _ h => h) (Or.inl ⟨by kernel_rfl, ?yn24k5⟩) (by assumption) ?rn24k5
        case yn24k5 => intro w hSw; (try dsimp only at hSw); go_simp; try with_reducible rfl
        try simp only [Act.put, List.setIfInBounds_toArray, List.set_cons_zero, List.set_cons_succ]
        refine wpAnyH_take (i := 6) (oi := ⟨some 8, .assign (.tmp 26), 90, "fix.go:52", #[⟨1, .data⟩, ⟨0, .phase⟩, ⟨1, .phase⟩, { on := 2, ground := Ground.textOnly Departure.lateStores }, { on := 3, ground := Ground.textOnly Departure.lateStores }, { on := 4, ground := Ground.textOnly Departure.lateStores }, { on := 5, ground := Ground.textOnly Departure.lateStores }], none⟩) (v := ?vn25k6) rfl (by kernel_rfl) (by kernel_rfl) (by kernel_rfl) (fun _ _ _ h => h) (Or.inl ⟨by kernel_rfl, ?yn25k6⟩) (by assumption) ?rn25k6
        case yn25k6 => intro w hSw; (try dsimp only at hSw); go_simp; try with_reducible rfl
        try simp only [Act.put, List.setIfInBounds_toArray, List.set_cons_zero, List.set_cons_succ]
        refine wpAnyH_take (i := 7) (oi := ⟨some 9, .assign (.tmp 28), 90, "fix.go:52", #[⟨3, .data⟩, ⟨6, .chain⟩, ⟨0, .phase⟩, ⟨1, .phase⟩, ⟨2, .phase⟩, ⟨3, .phase⟩, { on := 4, ground := Ground.textOnly Departure.lateStores }, { on := 5, ground := Ground.textOnly Departure.lateStores }, ⟨6, .phase⟩], none⟩) (v := ?vn26k7) rfl (by kernel_rfl) (by kernel_rfl) (by kernel_rfl) (fun _ _ _ h => h) (Or.inl ⟨by kernel_rfl, ?yn26k7⟩) (by assumption) ?rn26k7
        case yn26k7 => intro w hSw; (try dsimp only at hSw); go_simp; try with_reducible rfl
        try simp only [Act.put, List.setIfInBounds_toArray, List.set_cons_zero, List.set_cons_succ]
        refine wpAnyH_take (i := 8) (oi := ⟨some 10, .assign (.tmp 30), 90, "fix.go:52", #[⟨5, .data⟩, ⟨7, .chain⟩, ⟨0, .phase⟩, ⟨1, .phase⟩, ⟨2, .phase⟩, ⟨3, .phase⟩, ⟨4, .phase⟩, ⟨5, .phase⟩, ⟨6, .phase⟩, ⟨7, .phase⟩], none⟩) (v := ?vn27k8) rfl (by kernel_rfl) (by kernel_rfl) (by kernel_rfl) (fun _ _ _ h => h) (Or.inl ⟨by kernel_rfl, ?yn27k8⟩) (by assumption) ?rn27k8
        case yn27k8 => intro w hSw; (try dsimp only at hSw); go_simp; try with_reducible rfl
        try simp only [Act.put, List.setIfInBounds_toArray, List.set_cons_zero, List.set_cons_succ]
        refine wpAnyH_done (by kernel_rfl) ?_ _
        clear hHeld
        simp only [Kd.is] at h0 h1 h2 h3 h4 h5 h6 h7
        have ER := Lib.hid (show normsF (unionF F X Y Z) vs = R from HRR.out)
        go_wp2_with (first | (go_at_call 93; refine (union_F X Y Z _ hx hy hz' HRD.out HB.out HM.out).mono ?_; rintro e w6 ⟨rfl, hr, ho⟩; have R1 := Lib.hid hr; have O1 := Lib.hid ho; have y1 := (ho.cell (b := w.heap.size) (o := 1) (by omega)).trans x1; have y3 := (ho.cell (b := w.heap.size + 1) (o := 0) (by omega)).trans x3; clear hr ho) | (go_at_call 67; refine (anyNorm_any (cap := cap) (lb := w.heap.size + 1) vs A c1 _ (ints_only HAD.out O1.out HAG.out) HIN.out R1.out (bits_union HB.out X Y Z) ((O1.out.cell (by omega)).trans x3) (by omega) HAG.out).mono ?_; rw [ER.out]; rintro e w7 ⟨rfl, ho, hk⟩; have K7 := Lib.hid ((KD.out.trans O1.out.kept).trans ho.kept); have HK7 := Lib.hid hk; clear ho hk))
        go_ret
        exact ⟨by simp, K7.out, HK7.out⟩
      | meet =>
        injection hmm1 with hmm1
        have hlen := Lib.hid (show vs.length = 3 by omega)
        clear hmm1 hmm2 HM1 HK
        obtain ⟨e1', hy⟩ := XY.out (by have := hlen.out; omega)
        rw [e1'] at e1
        clear e1'
        obtain ⟨e2', hz'⟩ := XZ.out (by have := hlen.out; omega)
        rw [e2'] at e2
        clear e2'
        refine wp_region_held_drew (S := fun (wx : World) => wx.cell? ⟨w.heap.size + 2, 0, none⟩ = some (Value.pointer (some ⟨g, X * 4, none⟩)) ∧ wx.cell? ⟨w.heap.size + 2, 1, none⟩ = some (Value.pointer (some ⟨g, Y * 4, none⟩)) ∧ wx.cell? ⟨w.heap.size + 2, 2, none⟩ = some (Value.pointer (some ⟨g, Z * 4, none⟩))) (by kernel_rfl) ⟨e0, e1, e2⟩ (fun hHeld => ?_)
        have HRD := Lib.hid (show BRow wr.drew g n F from HRW.out)
        have HAD := Lib.hid (HAW.out.over ((Below.refl _ wr).drew))
        have KD := Lib.hid (KW.out.trans (KeptBut.of_below ((Below.refl wr.heap.size wr).drew) (by have := World.rowIs.lt HRW.out; omega)))
        replace x0 : wr.drew.cell? ⟨w.heap.size, 0, none⟩ = some (.string k) := x0
        replace x1 : wr.drew.cell? ⟨w.heap.size, 1, none⟩ = some (.slice A vs.length c1) := x1
        replace x2 : wr.drew.cell? ⟨w.heap.size, 2, none⟩ = some (.int .i64 N) := x2
        replace x3 : wr.drew.cell? ⟨w.heap.size + 1, 0, none⟩ = some (.slice (some ⟨g, 0, none⟩) n cap) := x3
        clear e0 e1 e2 HRW HAW KW
        generalize wr.drew = V at *
        refine wpAnyH_take (i := 0) (oi := ⟨some 25, .indexAddr 111 (.tmp 5) (.const (Value.int IntKind.i64 0)), 0, "fix.go:52", #[], none⟩) (v := ?vn28k0) rfl (by kernel_rfl) (by kernel_rfl) (by kernel_rfl) (fun _ _ _ h => h) (Or.inl ⟨by kernel_rfl, ?yn28k0⟩) (by assumption) ?rn28k0
        case yn28k0 => intro w hSw; (try dsimp only at hSw); go_simp; try with_reducible rfl
        try simp only [Act.put, List.setIfInBounds_toArray, List.set_cons_zero, List.set_cons_succ]
        refine wpAnyH_take (i := 1) (oi := ⟨some 26, .load 90 (.tmp 25), 90, "fix.go:52", #[⟨0, .data⟩], none⟩) (v := ?vn29k1) rfl (by kernel_rfl) (by kernel_rfl) (by kernel_rfl) (fun _ _ _ h => h) (Or.inl ⟨by kernel_rfl, ?yn29k1⟩) (by assumption) ?rn29k1
        case yn29k1 => intro w hSw; (try dsimp only at hSw); go_simp; try with_reducible rfl
        try simp only [Act.put, List.setIfInBounds_toArray, List.set_cons_zero, List.set_cons_succ]
        refine wpAnyH_take (i := 2) (oi := ⟨some 27, .indexAddr 111 (.tmp 5) (.const (Value.int IntKind.i64 1)), 0, "fix.go:52", #[{ on := 6, ground := Ground.gcOnly Departure.lateStores }], none⟩) (v := ?vn30k2) rfl (by kernel_rfl) (by kernel_rfl) (by kernel_rfl) (fun _ _ _ h => h) (Or.inl ⟨by kernel_rfl, ?yn30k2⟩) (by assumption) ?rn30k2
        case yn30k2 => intro w hSw; (try dsimp only at hSw); go_simp; try with_reducible rfl
        try simp only [Act.put, List.setIfInBounds_toArray, List.set_cons_zero, List.set_cons_succ]
        refine wpAnyH_take (i := 3) (oi := ⟨some 28, .load 90 (.tmp 27), 90, "fix.go:52", #[⟨2, .data⟩, { on := 6, ground := Ground.gcOnly Departure.lateStores }], none⟩) (v := ?vn31k3) rfl (by kernel_rfl) (by kernel_rfl) (by kernel_rfl) (fun _ _ _ h => h) (Or.inl ⟨by kernel_rfl, ?yn31k3⟩) (by assumption) ?rn31k3
        case yn31k3 => intro w hSw; (try dsimp only at hSw); go_simp; try with_reducible rfl
        try simp only [Act.put, List.setIfInBounds_toArray, List.set_cons_zero, List.set_cons_succ]
        refine wpAnyH_take (i := 4) (oi := ⟨some 29, .indexAddr 111 (.tmp 5) (.const (Value.int IntKind.i64 2)), 0, "fix.go:52", #[{ on := 7, ground := Ground.gcOnly Departure.lateStores }], none⟩) (v := ?vn32k4) rfl (by kernel_rfl) (by kernel_rfl) (by kernel_rfl) (fun _ _ _ h => h) (Or.inl ⟨by kernel_rfl, ?yn32k4⟩) (by assumption) ?rn32k4
        case yn32k4 => intro w hSw; (try dsimp only at hSw); go_simp; try with_reducible rfl
        try simp only [Act.put, List.setIfInBounds_toArray, List.set_cons_zero, List.set_cons_succ]
        refine wpAnyH_take (i := 5) (oi := ⟨some 30, .load 90 (.tmp 29), 90, "fix.go:52", #[⟨4, .data⟩, { on := 7, ground := Ground.gcOnly Departure.lateStores }], none⟩) (v := ?vn33k5) rfl (by kernel_rfl) (by kernel_rfl) (by kernel_rfl) (fun _ _ _ h => h) (Or.inl ⟨by kernel_rfl, ?yn33k5⟩) (by assumption) ?rn33k5
        case yn33k5 => intro w hSw; (try dsimp only at hSw); go_simp; try with_reducible rfl
        try simp only [Act.put, List.setIfInBounds_toArray, List.set_cons_zero, List.set_cons_succ]
        refine wpAnyH_take (i := 6) (oi := ⟨some 8, .assign (.tmp 26), 90, "fix.go:52", #[⟨1, .data⟩, ⟨0, .phase⟩, ⟨1, .phase⟩, { on := 2, ground := Ground.textOnly Departure.lateStores }, { on := 3, ground := Ground.textOnly Departure.lateStores }, { on := 4, ground := Ground.textOnly Departure.lateStores }, { on := 5, ground := Ground.textOnly Departure.lateStores }], none⟩) (v := ?vn34k6) rfl (by kernel_rfl) (by kernel_rfl) (by kernel_rfl) (fun _ _ _ h => h) (Or.inl ⟨by kernel_rfl, ?yn34k6⟩) (by assumption) ?rn34k6
        case yn34k6 => intro w hSw; (try dsimp only at hSw); go_simp; try with_reducible rfl
        try simp only [Act.put, List.setIfInBounds_toArray, List.set_cons_zero, List.set_cons_succ]
        refine wpAnyH_take (i := 7) (oi := ⟨some 9, .assign (.tmp 28), 90, "fix.go:52", #[⟨3, .data⟩, ⟨6, .chain⟩, ⟨0, .phase⟩, ⟨1, .phase⟩, ⟨2, .phase⟩, ⟨3, .phase⟩, { on := 4, ground := Ground.textOnly Departure.lateStores }, { on := 5, ground := Ground.textOnly Departure.lateStores }, ⟨6, .phase⟩], none⟩) (v := ?vn35k7) rfl (by kernel_rfl) (by kernel_rfl) (by kernel_rfl) (fun _ _ _ h => h) (Or.inl ⟨by kernel_rfl, ?yn35k7⟩) (by assumption) ?rn35k7
        case yn35k7 => intro w hSw; (try dsimp only at hSw); go_simp; try with_reducible rfl
        try simp only [Act.put, List.setIfInBounds_toArray, List.set_cons_zero, List.set_cons_succ]
        refine wpAnyH_take (i := 8) (oi := ⟨some 10, .assign (.tmp 30), 90, "fix.go:52", #[⟨5, .data⟩, ⟨7, .chain⟩, ⟨0, .phase⟩, ⟨1, .phase⟩, ⟨2, .phase⟩, ⟨3, .phase⟩, ⟨4, .phase⟩, ⟨5, .phase⟩, ⟨6, .phase⟩, ⟨7, .phase⟩], none⟩) (v := ?vn36k8) rfl (by kernel_rfl) (by kernel_rfl) (by kernel_rfl) (fun _ _ _ h => h) (Or.inl ⟨by kernel_rfl, ?yn36k8⟩) (by assumption) ?rn36k8
        case yn36k8 => intro w hSw; (try dsimp only at hSw); go_simp; try with_reducible rfl
        try simp only [Act.put, List.setIfInBounds_toArray, List.set_cons_zero, List.set_cons_succ]
        refine wpAnyH_done (by kernel_rfl) ?_ _
        clear hHeld
        simp only [Kd.is] at h0 h1 h2 h3 h4 h5 h6 h7
        have ER := Lib.hid (show normsF (meetF F X Y Z) vs = R from HRR.out)
        go_wp2_with (first | (go_at_call 94; refine (meet_F X Y Z _ hx hy hz' HRD.out HB.out).mono ?_; rintro e w6 ⟨rfl, hr, ho⟩; have R1 := Lib.hid hr; have O1 := Lib.hid ho; have y1 := (ho.cell (b := w.heap.size) (o := 1) (by omega)).trans x1; have y3 := (ho.cell (b := w.heap.size + 1) (o := 0) (by omega)).trans x3; clear hr ho) | (go_at_call 67; refine (anyNorm_any (cap := cap) (lb := w.heap.size + 1) vs A c1 _ (ints_only HAD.out O1.out HAG.out) HIN.out R1.out (bits_meet HB.out X Y Z) ((O1.out.cell (by omega)).trans x3) (by omega) HAG.out).mono ?_; rw [ER.out]; rintro e w7 ⟨rfl, ho, hk⟩; have K7 := Lib.hid ((KD.out.trans O1.out.kept).trans ho.kept); have HK7 := Lib.hid hk; clear ho hk))
        go_ret
        exact ⟨by simp, K7.out, HK7.out⟩
      | minus =>
        injection hmm1 with hmm1
        have hlen := Lib.hid (show vs.length = 3 by omega)
        clear hmm1 hmm2 HM1 HK
        obtain ⟨e1', hy⟩ := XY.out (by have := hlen.out; omega)
        rw [e1'] at e1
        clear e1'
        obtain ⟨e2', hz'⟩ := XZ.out (by have := hlen.out; omega)
        rw [e2'] at e2
        clear e2'
        refine wp_region_held_drew (S := fun (wx : World) => wx.cell? ⟨w.heap.size + 2, 0, none⟩ = some (Value.pointer (some ⟨g, X * 4, none⟩)) ∧ wx.cell? ⟨w.heap.size + 2, 1, none⟩ = some (Value.pointer (some ⟨g, Y * 4, none⟩)) ∧ wx.cell? ⟨w.heap.size + 2, 2, none⟩ = some (Value.pointer (some ⟨g, Z * 4, none⟩))) (by kernel_rfl) ⟨e0, e1, e2⟩ (fun hHeld => ?_)
        have HRD := Lib.hid (show BRow wr.drew g n F from HRW.out)
        have HAD := Lib.hid (HAW.out.over ((Below.refl _ wr).drew))
        have KD := Lib.hid (KW.out.trans (KeptBut.of_below ((Below.refl wr.heap.size wr).drew) (by have := World.rowIs.lt HRW.out; omega)))
        replace x0 : wr.drew.cell? ⟨w.heap.size, 0, none⟩ = some (.string k) := x0
        replace x1 : wr.drew.cell? ⟨w.heap.size, 1, none⟩ = some (.slice A vs.length c1) := x1
        replace x2 : wr.drew.cell? ⟨w.heap.size, 2, none⟩ = some (.int .i64 N) := x2
        replace x3 : wr.drew.cell? ⟨w.heap.size + 1, 0, none⟩ = some (.slice (some ⟨g, 0, none⟩) n cap) := x3
        clear e0 e1 e2 HRW HAW KW
        generalize wr.drew = V at *
        refine wpAnyH_take (i := 0) (oi := ⟨some 25, .indexAddr 111 (.tmp 5) (.const (Value.int IntKind.i64 0)), 0, "fix.go:52", #[], none⟩) (v := ?vn37k0) rfl (by kernel_rfl) (by kernel_rfl) (by kernel_rfl) (fun _ _ _ h => h) (Or.inl ⟨by kernel_rfl, ?yn37k0⟩) (by assumption) ?rn37k0
        case yn37k0 => intro w hSw; (try dsimp only at hSw); go_simp; try with_reducible rfl
        try simp only [Act.put, List.setIfInBounds_toArray, List.set_cons_zero, List.set_cons_succ]
        refine wpAnyH_take (i := 1) (oi := ⟨some 26, .load 90 (.tmp 25), 90, "fix.go:52", #[⟨0, .data⟩], none⟩) (v := ?vn38k1) rfl (by kernel_rfl) (by kernel_rfl) (by kernel_rfl) (fun _ _ _ h => h) (Or.inl ⟨by kernel_rfl, ?yn38k1⟩) (by assumption) ?rn38k1
        case yn38k1 => intro w hSw; (try dsimp only at hSw); go_simp; try with_reducible rfl
        try simp only [Act.put, List.setIfInBounds_toArray, List.set_cons_zero, List.set_cons_succ]
        refine wpAnyH_take (i := 2) (oi := ⟨some 27, .indexAddr 111 (.tmp 5) (.const (Value.int IntKind.i64 1)), 0, "fix.go:52", #[{ on := 6, ground := Ground.gcOnly Departure.lateStores }], none⟩) (v := ?vn39k2) rfl (by kernel_rfl) (by kernel_rfl) (by kernel_rfl) (fun _ _ _ h => h) (Or.inl ⟨by kernel_rfl, ?yn39k2⟩) (by assumption) ?rn39k2
        case yn39k2 => intro w hSw; (try dsimp only at hSw); go_simp; try with_reducible rfl
        try simp only [Act.put, List.setIfInBounds_toArray, List.set_cons_zero, List.set_cons_succ]
        refine wpAnyH_take (i := 3) (oi := ⟨some 28, .load 90 (.tmp 27), 90, "fix.go:52", #[⟨2, .data⟩, { on := 6, ground := Ground.gcOnly Departure.lateStores }], none⟩) (v := ?vn40k3) rfl (by kernel_rfl) (by kernel_rfl) (by kernel_rfl) (fun _ _ _ h => h) (Or.inl ⟨by kernel_rfl, ?yn40k3⟩) (by assumption) ?rn40k3
        case yn40k3 => intro w hSw; (try dsimp only at hSw); go_simp; try with_reducible rfl
        try simp only [Act.put, List.setIfInBounds_toArray, List.set_cons_zero, List.set_cons_succ]
        refine wpAnyH_take (i := 4) (oi := ⟨some 29, .indexAddr 111 (.tmp 5) (.const (Value.int IntKind.i64 2)), 0, "fix.go:52", #[{ on := 7, ground := Ground.gcOnly Departure.lateStores }], none⟩) (v := ?vn41k4) rfl (by kernel_rfl) (by kernel_rfl) (by kernel_rfl) (fun _ _ _ h => h) (Or.inl ⟨by kernel_rfl, ?yn41k4⟩) (by assumption) ?rn41k4
        case yn41k4 => intro w hSw; (try dsimp only at hSw); go_simp; try with_reducible rfl
        try simp only [Act.put, List.setIfInBounds_toArray, List.set_cons_zero, List.set_cons_succ]
        refine wpAnyH_take (i := 5) (oi := ⟨some 30, .load 90 (.tmp 29), 90, "fix.go:52", #[⟨4, .data⟩, { on := 7, ground := Ground.gcOnly Departure.lateStores }], none⟩) (v := ?vn42k5) rfl (by kernel_rfl) (by kernel_rfl) (by kernel_rfl) (fun _ _ _ h => h) (Or.inl ⟨by kernel_rfl, ?yn42k5⟩) (by assumption) ?rn42k5
        case yn42k5 => intro w hSw; (try dsimp only at hSw); go_simp; try with_reducible rfl
        try simp only [Act.put, List.setIfInBounds_toArray, List.set_cons_zero, List.set_cons_succ]
        refine wpAnyH_take (i := 6) (oi := ⟨some 8, .assign (.tmp 26), 90, "fix.go:52", #[⟨1, .data⟩, ⟨0, .phase⟩, ⟨1, .phase⟩, { on := 2, ground := Ground.textOnly Departure.lateStores }, { on := 3, ground := Ground.textOnly Departure.lateStores }, { on := 4, ground := Ground.textOnly Departure.lateStores }, { on := 5, ground := Ground.textOnly Departure.lateStores }], none⟩) (v := ?vn43k6) rfl (by kernel_rfl) (by kernel_rfl) (by kernel_rfl) (fun _ _ _ h => h) (Or.inl ⟨by kernel_rfl, ?yn43k6⟩) (by assumption) ?rn43k6
        case yn43k6 => intro w hSw; (try dsimp only at hSw); go_simp; try with_reducible rfl
        try simp only [Act.put, List.setIfInBounds_toArray, List.set_cons_zero, List.set_cons_succ]
        refine wpAnyH_take (i := 7) (oi := ⟨some 9, .assign (.tmp 28), 90, "fix.go:52", #[⟨3, .data⟩, ⟨6, .chain⟩, ⟨0, .phase⟩, ⟨1, .phase⟩, ⟨2, .phase⟩, ⟨3, .phase⟩, { on := 4, ground := Ground.textOnly Departure.lateStores }, { on := 5, ground := Ground.textOnly Departure.lateStores }, ⟨6, .phase⟩], none⟩) (v := ?vn44k7) rfl (by kernel_rfl) (by kernel_rfl) (by kernel_rfl) (fun _ _ _ h => h) (Or.inl ⟨by kernel_rfl, ?yn44k7⟩) (by assumption) ?rn44k7
        case yn44k7 => intro w hSw; (try dsimp only at hSw); go_simp; try with_reducible rfl
        try simp only [Act.put, List.setIfInBounds_toArray, List.set_cons_zero, List.set_cons_succ]
        refine wpAnyH_take (i := 8) (oi := ⟨some 10, .assign (.tmp 30), 90, "fix.go:52", #[⟨5, .data⟩, ⟨7, .chain⟩, ⟨0, .phase⟩, ⟨1, .phase⟩, ⟨2, .phase⟩, ⟨3, .phase⟩, ⟨4, .phase⟩, ⟨5, .phase⟩, ⟨6, .phase⟩, ⟨7, .phase⟩], none⟩) (v := ?vn45k8) rfl (by kernel_rfl) (by kernel_rfl) (by kernel_rfl) (fun _ _ _ h => h) (Or.inl ⟨by kernel_rfl, ?yn45k8⟩) (by assumption) ?rn45k8
        case yn45k8 => intro w hSw; (try dsimp only at hSw); go_simp; try with_reducible rfl
        try simp only [Act.put, List.setIfInBounds_toArray, List.set_cons_zero, List.set_cons_succ]
        refine wpAnyH_done (by kernel_rfl) ?_ _
        clear hHeld
        simp only [Kd.is] at h0 h1 h2 h3 h4 h5 h6 h7
        have ER := Lib.hid (show normsF (minusF F X Y Z) vs = R from HRR.out)
        go_wp2_with (first | (go_at_call 95; refine (minus_F X Y Z _ hx hy hz' HRD.out HB.out).mono ?_; rintro e w6 ⟨rfl, hr, ho⟩; have R1 := Lib.hid hr; have O1 := Lib.hid ho; have y1 := (ho.cell (b := w.heap.size) (o := 1) (by omega)).trans x1; have y3 := (ho.cell (b := w.heap.size + 1) (o := 0) (by omega)).trans x3; clear hr ho) | (go_at_call 67; refine (anyNorm_any (cap := cap) (lb := w.heap.size + 1) vs A c1 _ (ints_only HAD.out O1.out HAG.out) HIN.out R1.out (bits_minus HB.out X Y Z) ((O1.out.cell (by omega)).trans x3) (by omega) HAG.out).mono ?_; rw [ER.out]; rintro e w7 ⟨rfl, ho, hk⟩; have K7 := Lib.hid ((KD.out.trans O1.out.kept).trans ho.kept); have HK7 := Lib.hid hk; clear ho hk))
        go_ret
        exact ⟨by simp, K7.out, HK7.out⟩
      | has =>
        injection hmm1 with hmm1
        have hlen := Lib.hid (show vs.length = 1 by omega)
        clear hmm1 hmm2 HM1 HK
        rw [XN1.out (by have := hlen.out; omega)] at e1
        rw [XN2.out (by have := hlen.out; omega)] at e2
        refine wp_region_held_drew (S := fun (wx : World) => wx.cell? ⟨w.heap.size + 2, 0, none⟩ = some (Value.pointer (some ⟨g, X * 4, none⟩)) ∧ wx.cell? ⟨w.heap.size + 2, 1, none⟩ = some (Value.pointer none) ∧ wx.cell? ⟨w.heap.size + 2, 2, none⟩ = some (Value.pointer none)) (by kernel_rfl) ⟨e0, e1, e2⟩ (fun hHeld => ?_)
        have HRD := Lib.hid (show BRow wr.drew g n F from HRW.out)
        have HAD := Lib.hid (HAW.out.over ((Below.refl _ wr).drew))
        have KD := Lib.hid (KW.out.trans (KeptBut.of_below ((Below.refl wr.heap.size wr).drew) (by have := World.rowIs.lt HRW.out; omega)))
        replace x0 : wr.drew.cell? ⟨w.heap.size, 0, none⟩ = some (.string k) := x0
        replace x1 : wr.drew.cell? ⟨w.heap.size, 1, none⟩ = some (.slice A vs.length c1) := x1
        replace x2 : wr.drew.cell? ⟨w.heap.size, 2, none⟩ = some (.int .i64 N) := x2
        replace x3 : wr.drew.cell? ⟨w.heap.size + 1, 0, none⟩ = some (.slice (some ⟨g, 0, none⟩) n cap) := x3
        clear e0 e1 e2 HRW HAW KW
        generalize wr.drew = V at *
        refine wpAnyH_take (i := 0) (oi := ⟨some 25, .indexAddr 111 (.tmp 5) (.const (Value.int IntKind.i64 0)), 0, "fix.go:52", #[], none⟩) (v := ?vn46k0) rfl (by kernel_rfl) (by kernel_rfl) (by kernel_rfl) (fun _ _ _ h => h) (Or.inl ⟨by kernel_rfl, ?yn46k0⟩) (by assumption) ?rn46k0
        case yn46k0 => intro w hSw; (try dsimp only at hSw); go_simp; try with_reducible rfl
        try simp only [Act.put, List.setIfInBounds_toArray, List.set_cons_zero, List.set_cons_succ]
        refine wpAnyH_take (i := 1) (oi := ⟨some 26, .load 90 (.tmp 25), 90, "fix.go:52", #[⟨0, .data⟩], none⟩) (v := ?vn47k1) rfl (by kernel_rfl) (by kernel_rfl) (by kernel_rfl) (fun _ _ _ h => h) (Or.inl ⟨by kernel_rfl, ?yn47k1⟩) (by assumption) ?rn47k1
        case yn47k1 => intro w hSw; (try dsimp only at hSw); go_simp; try with_reducible rfl
        try simp only [Act.put, List.setIfInBounds_toArray, List.set_cons_zero, List.set_cons_succ]
        refine wpAnyH_take (i := 2) (oi := ⟨some 27, .indexAddr 111 (.tmp 5) (.const (Value.int IntKind.i64 1)), 0, "fix.go:52", #[{ on := 6, ground := Ground.gcOnly Departure.lateStores }], none⟩) (v := ?vn48k2) rfl (by kernel_rfl) (by kernel_rfl) (by kernel_rfl) (fun _ _ _ h => h) (Or.inl ⟨by kernel_rfl, ?yn48k2⟩) (by assumption) ?rn48k2
        case yn48k2 => intro w hSw; (try dsimp only at hSw); go_simp; try with_reducible rfl
        try simp only [Act.put, List.setIfInBounds_toArray, List.set_cons_zero, List.set_cons_succ]
        refine wpAnyH_take (i := 3) (oi := ⟨some 28, .load 90 (.tmp 27), 90, "fix.go:52", #[⟨2, .data⟩, { on := 6, ground := Ground.gcOnly Departure.lateStores }], none⟩) (v := ?vn49k3) rfl (by kernel_rfl) (by kernel_rfl) (by kernel_rfl) (fun _ _ _ h => h) (Or.inl ⟨by kernel_rfl, ?yn49k3⟩) (by assumption) ?rn49k3
        case yn49k3 => intro w hSw; (try dsimp only at hSw); go_simp; try with_reducible rfl
        try simp only [Act.put, List.setIfInBounds_toArray, List.set_cons_zero, List.set_cons_succ]
        refine wpAnyH_take (i := 4) (oi := ⟨some 29, .indexAddr 111 (.tmp 5) (.const (Value.int IntKind.i64 2)), 0, "fix.go:52", #[{ on := 7, ground := Ground.gcOnly Departure.lateStores }], none⟩) (v := ?vn50k4) rfl (by kernel_rfl) (by kernel_rfl) (by kernel_rfl) (fun _ _ _ h => h) (Or.inl ⟨by kernel_rfl, ?yn50k4⟩) (by assumption) ?rn50k4
        case yn50k4 => intro w hSw; (try dsimp only at hSw); go_simp; try with_reducible rfl
        try simp only [Act.put, List.setIfInBounds_toArray, List.set_cons_zero, List.set_cons_succ]
        refine wpAnyH_take (i := 5) (oi := ⟨some 30, .load 90 (.tmp 29), 90, "fix.go:52", #[⟨4, .data⟩, { on := 7, ground := Ground.gcOnly Departure.lateStores }], none⟩) (v := ?vn51k5) rfl (by kernel_rfl) (by kernel_rfl) (by kernel_rfl) (fun _ _ _ h => h) (Or.inl ⟨by kernel_rfl, ?yn51k5⟩) (by assumption) ?rn51k5
        case yn51k5 => intro w hSw; (try dsimp only at hSw); go_simp; try with_reducible rfl
        try simp only [Act.put, List.setIfInBounds_toArray, List.set_cons_zero, List.set_cons_succ]
        refine wpAnyH_take (i := 6) (oi := ⟨some 8, .assign (.tmp 26), 90, "fix.go:52", #[⟨1, .data⟩, ⟨0, .phase⟩, ⟨1, .phase⟩, { on := 2, ground := Ground.textOnly Departure.lateStores }, { on := 3, ground := Ground.textOnly Departure.lateStores }, { on := 4, ground := Ground.textOnly Departure.lateStores }, { on := 5, ground := Ground.textOnly Departure.lateStores }], none⟩) (v := ?vn52k6) rfl (by kernel_rfl) (by kernel_rfl) (by kernel_rfl) (fun _ _ _ h => h) (Or.inl ⟨by kernel_rfl, ?yn52k6⟩) (by assumption) ?rn52k6
        case yn52k6 => intro w hSw; (try dsimp only at hSw); go_simp; try with_reducible rfl
        try simp only [Act.put, List.setIfInBounds_toArray, List.set_cons_zero, List.set_cons_succ]
        refine wpAnyH_take (i := 7) (oi := ⟨some 9, .assign (.tmp 28), 90, "fix.go:52", #[⟨3, .data⟩, ⟨6, .chain⟩, ⟨0, .phase⟩, ⟨1, .phase⟩, ⟨2, .phase⟩, ⟨3, .phase⟩, { on := 4, ground := Ground.textOnly Departure.lateStores }, { on := 5, ground := Ground.textOnly Departure.lateStores }, ⟨6, .phase⟩], none⟩) (v := ?vn53k7) rfl (by kernel_rfl) (by kernel_rfl) (by kernel_rfl) (fun _ _ _ h => h) (Or.inl ⟨by kernel_rfl, ?yn53k7⟩) (by assumption) ?rn53k7
        case yn53k7 => intro w hSw; (try dsimp only at hSw); go_simp; try with_reducible rfl
        try simp only [Act.put, List.setIfInBounds_toArray, List.set_cons_zero, List.set_cons_succ]
        refine wpAnyH_take (i := 8) (oi := ⟨some 10, .assign (.tmp 30), 90, "fix.go:52", #[⟨5, .data⟩, ⟨7, .chain⟩, ⟨0, .phase⟩, ⟨1, .phase⟩, ⟨2, .phase⟩, ⟨3, .phase⟩, ⟨4, .phase⟩, ⟨5, .phase⟩, ⟨6, .phase⟩, ⟨7, .phase⟩], none⟩) (v := ?vn54k8) rfl (by kernel_rfl) (by kernel_rfl) (by kernel_rfl) (fun _ _ _ h => h) (Or.inl ⟨by kernel_rfl, ?yn54k8⟩) (by assumption) ?rn54k8
        case yn54k8 => intro w hSw; (try dsimp only at hSw); go_simp; try with_reducible rfl
        try simp only [Act.put, List.setIfInBounds_toArray, List.set_cons_zero, List.set_cons_succ]
        refine wpAnyH_done (by kernel_rfl) ?_ _
        clear hHeld
        simp only [Kd.is] at h0 h1 h2 h3 h4 h5 h6 h7
        cases hI : inR N with
        | true =>
          have hNr : 0 ≤ N ∧ N ≤ 63 := by simpa [inR] using hI
          obtain ⟨t, ht⟩ : ∃ t : Nat, N = t := ⟨N.toNat, by omega⟩
          subst ht
          have MN := Lib.hid (show min t 64 = t by omega)
          have SH := Lib.hid (one_shl' t (by omega))
          have z7 : (0 : Int) ≤ (t : Int) := by omega
          have ER := Lib.hid (show normsF (intoF F X (2 ^ t)) vs = R from by rw [← HRR.out]; show _ = (match (if inR ((t : Nat) : Int) = true then some (intoF F X (2 ^ ((t : Nat) : Int).toNat)) else none) with | some F1 => normsF F1 vs | none => (false, F)); rw [if_pos hI, Int.toNat_natCast])
          go_wp2_with (first | (go_at_call 70; refine (isElement_any ((t : Nat) : Int) _).mono ?_; rw [hI]; rintro e w5 ⟨rfl, rfl⟩) | (go_at_call 47; (try rw [MN.out]); rw [SH.out]; refine (into_F X (2 ^ t) _ hx HRD.out HB.out (two_lt (by omega))).mono ?_; rintro e w6 ⟨rfl, hr, ho⟩; have R1 := Lib.hid hr; have O1 := Lib.hid ho; have y1 := (ho.cell (b := w.heap.size) (o := 1) (by omega)).trans x1; have y2 := (ho.cell (b := w.heap.size) (o := 2) (by omega)).trans x2; have y3 := (ho.cell (b := w.heap.size + 1) (o := 0) (by omega)).trans x3; clear hr ho) | (go_at_call 67; refine (anyNorm_any (cap := cap) (lb := w.heap.size + 1) vs A c1 _ (ints_only HAD.out O1.out HAG.out) HIN.out R1.out (HB.out.into X _ (two_lt (by omega))) ((O1.out.cell (by omega)).trans x3) (by omega) HAG.out).mono ?_; rw [ER.out]; rintro e w7 ⟨rfl, ho, hk⟩; have K7 := Lib.hid ((KD.out.trans O1.out.kept).trans ho.kept); have HK7 := Lib.hid hk; clear ho hk))
          go_ret
          exact ⟨by simp, K7.out, HK7.out⟩
        | false =>
          have ER := Lib.hid (show R = (false, F) from by rw [← HRR.out]; show (match (if inR N = true then some (intoF F X (2 ^ N.toNat)) else none) with | some F1 => normsF F1 vs | none => (false, F)) = _; rw [if_neg (by rw [hI]; decide)])
          go_wp2_with (go_at_call 70; refine (isElement_any N _).mono ?_; rw [hI]; rintro e w5 ⟨rfl, rfl⟩)
          go_ret
          rw [ER.out]
          exact ⟨rfl, KD.out, fun e => by cases e⟩
      | lacks =>
        injection hmm1 with hmm1
        have hlen := Lib.hid (show vs.length = 1 by omega)
        clear hmm1 hmm2 HM1 HK
        rw [XN1.out (by have := hlen.out; omega)] at e1
        rw [XN2.out (by have := hlen.out; omega)] at e2
        refine wp_region_held_drew (S := fun (wx : World) => wx.cell? ⟨w.heap.size + 2, 0, none⟩ = some (Value.pointer (some ⟨g, X * 4, none⟩)) ∧ wx.cell? ⟨w.heap.size + 2, 1, none⟩ = some (Value.pointer none) ∧ wx.cell? ⟨w.heap.size + 2, 2, none⟩ = some (Value.pointer none)) (by kernel_rfl) ⟨e0, e1, e2⟩ (fun hHeld => ?_)
        have HRD := Lib.hid (show BRow wr.drew g n F from HRW.out)
        have HAD := Lib.hid (HAW.out.over ((Below.refl _ wr).drew))
        have KD := Lib.hid (KW.out.trans (KeptBut.of_below ((Below.refl wr.heap.size wr).drew) (by have := World.rowIs.lt HRW.out; omega)))
        replace x0 : wr.drew.cell? ⟨w.heap.size, 0, none⟩ = some (.string k) := x0
        replace x1 : wr.drew.cell? ⟨w.heap.size, 1, none⟩ = some (.slice A vs.length c1) := x1
        replace x2 : wr.drew.cell? ⟨w.heap.size, 2, none⟩ = some (.int .i64 N) := x2
        replace x3 : wr.drew.cell? ⟨w.heap.size + 1, 0, none⟩ = some (.slice (some ⟨g, 0, none⟩) n cap) := x3
        clear e0 e1 e2 HRW HAW KW
        generalize wr.drew = V at *
        refine wpAnyH_take (i := 0) (oi := ⟨some 25, .indexAddr 111 (.tmp 5) (.const (Value.int IntKind.i64 0)), 0, "fix.go:52", #[], none⟩) (v := ?vn55k0) rfl (by kernel_rfl) (by kernel_rfl) (by kernel_rfl) (fun _ _ _ h => h) (Or.inl ⟨by kernel_rfl, ?yn55k0⟩) (by assumption) ?rn55k0
        case yn55k0 => intro w hSw; (try dsimp only at hSw); go_simp; try with_reducible rfl
        try simp only [Act.put, List.setIfInBounds_toArray, List.set_cons_zero, List.set_cons_succ]
        refine wpAnyH_take (i := 1) (oi := ⟨some 26, .load 90 (.tmp 25), 90, "fix.go:52", #[⟨0, .data⟩], none⟩) (v := ?vn56k1) rfl (by kernel_rfl) (by kernel_rfl) (by kernel_rfl) (fun _ _ _ h => h) (Or.inl ⟨by kernel_rfl, ?yn56k1⟩) (by assumption) ?rn56k1
        case yn56k1 => intro w hSw; (try dsimp only at hSw); go_simp; try with_reducible rfl
        try simp only [Act.put, List.setIfInBounds_toArray, List.set_cons_zero, List.set_cons_succ]
        refine wpAnyH_take (i := 2) (oi := ⟨some 27, .indexAddr 111 (.tmp 5) (.const (Value.int IntKind.i64 1)), 0, "fix.go:52", #[{ on := 6, ground := Ground.gcOnly Departure.lateStores }], none⟩) (v := ?vn57k2) rfl (by kernel_rfl) (by kernel_rfl) (by kernel_rfl) (fun _ _ _ h => h) (Or.inl ⟨by kernel_rfl, ?yn57k2⟩) (by assumption) ?rn57k2
        case yn57k2 => intro w hSw; (try dsimp only at hSw); go_simp; try with_reducible rfl
        try simp only [Act.put, List.setIfInBounds_toArray, List.set_cons_zero, List.set_cons_succ]
        refine wpAnyH_take (i := 3) (oi := ⟨some 28, .load 90 (.tmp 27), 90, "fix.go:52", #[⟨2, .data⟩, { on := 6, ground := Ground.gcOnly Departure.lateStores }], none⟩) (v := ?vn58k3) rfl (by kernel_rfl) (by kernel_rfl) (by kernel_rfl) (fun _ _ _ h => h) (Or.inl ⟨by kernel_rfl, ?yn58k3⟩) (by assumption) ?rn58k3
        case yn58k3 => intro w hSw; (try dsimp only at hSw); go_simp; try with_reducible rfl
        try simp only [Act.put, List.setIfInBounds_toArray, List.set_cons_zero, List.set_cons_succ]
        refine wpAnyH_take (i := 4) (oi := ⟨some 29, .indexAddr 111 (.tmp 5) (.const (Value.int IntKind.i64 2)), 0, "fix.go:52", #[{ on := 7, ground := Ground.gcOnly Departure.lateStores }], none⟩) (v := ?vn59k4) rfl (by kernel_rfl) (by kernel_rfl) (by kernel_rfl) (fun _ _ _ h => h) (Or.inl ⟨by kernel_rfl, ?yn59k4⟩) (by assumption) ?rn59k4
        case yn59k4 => intro w hSw; (try dsimp only at hSw); go_simp; try with_reducible rfl
        try simp only [Act.put, List.setIfInBounds_toArray, List.set_cons_zero, List.set_cons_succ]
        refine wpAnyH_take (i := 5) (oi := ⟨some 30, .load 90 (.tmp 29), 90, "fix.go:52", #[⟨4, .data⟩, { on := 7, ground := Ground.gcOnly Departure.lateStores }], none⟩) (v := ?vn60k5) rfl (by kernel_rfl) (by kernel_rfl) (by kernel_rfl) (fun _ _ _ h => h) (Or.inl ⟨by kernel_rfl, ?yn60k5⟩) (by assumption) ?rn60k5
        case yn60k5 => intro w hSw; (try dsimp only at hSw); go_simp; try with_reducible rfl
        try simp only [Act.put, List.setIfInBounds_toArray, List.set_cons_zero, List.set_cons_succ]
        refine wpAnyH_take (i := 6) (oi := ⟨some 8, .assign (.tmp 26), 90, "fix.go:52", #[⟨1, .data⟩, ⟨0, .phase⟩, ⟨1, .phase⟩, { on := 2, ground := Ground.textOnly Departure.lateStores }, { on := 3, ground := Ground.textOnly Departure.lateStores }, { on := 4, ground := Ground.textOnly Departure.lateStores }, { on := 5, ground := Ground.textOnly Departure.lateStores }], none⟩) (v := ?vn61k6) rfl (by kernel_rfl) (by kernel_rfl) (by kernel_rfl) (fun _ _ _ h => h) (Or.inl ⟨by kernel_rfl, ?yn61k6⟩) (by assumption) ?rn61k6
        case yn61k6 => intro w hSw; (try dsimp only at hSw); go_simp; try with_reducible rfl
        try simp only [Act.put, List.setIfInBounds_toArray, List.set_cons_zero, List.set_cons_succ]
        refine wpAnyH_take (i := 7) (oi := ⟨some 9, .assign (.tmp 28), 90, "fix.go:52", #[⟨3, .data⟩, ⟨6, .chain⟩, ⟨0, .phase⟩, ⟨1, .phase⟩, ⟨2, .phase⟩, ⟨3, .phase⟩, { on := 4, ground := Ground.textOnly Departure.lateStores }, { on := 5, ground := Ground.textOnly Departure.lateStores }, ⟨6, .phase⟩], none⟩) (v := ?vn62k7) rfl (by kernel_rfl) (by kernel_rfl) (by kernel_rfl) (fun _ _ _ h => h) (Or.inl ⟨by kernel_rfl, ?yn62k7⟩) (by assumption) ?rn62k7
        case yn62k7 => intro w hSw; (try dsimp only at hSw); go_simp; try with_reducible rfl
        try simp only [Act.put, List.setIfInBounds_toArray, List.set_cons_zero, List.set_cons_succ]
        refine wpAnyH_take (i := 8) (oi := ⟨some 10, .assign (.tmp 30), 90, "fix.go:52", #[⟨5, .data⟩, ⟨7, .chain⟩, ⟨0, .phase⟩, ⟨1, .phase⟩, ⟨2, .phase⟩, ⟨3, .phase⟩, ⟨4, .phase⟩, ⟨5, .phase⟩, ⟨6, .phase⟩, ⟨7, .phase⟩], none⟩) (v := ?vn63k8) rfl (by kernel_rfl) (by kernel_rfl) (by kernel_rfl) (fun _ _ _ h => h) (Or.inl ⟨by kernel_rfl, ?yn63k8⟩) (by assumption) ?rn63k8
        case yn63k8 => intro w hSw; (try dsimp only at hSw); go_simp; try with_reducible rfl
        try simp only [Act.put, List.setIfInBounds_toArray, List.set_cons_zero, List.set_cons_succ]
        refine wpAnyH_done (by kernel_rfl) ?_ _
        clear hHeld
        simp only [Kd.is] at h0 h1 h2 h3 h4 h5 h6 h7
        cases hI : inR N with
        | true =>
          have hNr : 0 ≤ N ∧ N ≤ 63 := by simpa [inR] using hI
          obtain ⟨t, ht⟩ : ∃ t : Nat, N = t := ⟨N.toNat, by omega⟩
          subst ht
          have MN := Lib.hid (show min t 64 = t by omega)
          have SH := Lib.hid (one_shl' t (by omega))
          have z7 : (0 : Int) ≤ (t : Int) := by omega
          have ER := Lib.hid (show normsF (outF F X (2 ^ t)) vs = R from by rw [← HRR.out]; show _ = (match (if inR ((t : Nat) : Int) = true then some (outF F X (2 ^ ((t : Nat) : Int).toNat)) else some F) with | some F1 => normsF F1 vs | none => (false, F)); rw [if_pos hI, Int.toNat_natCast])
          go_wp2_with (first | (go_at_call 70; refine (isElement_any ((t : Nat) : Int) _).mono ?_; rw [hI]; rintro e w5 ⟨rfl, rfl⟩) | (go_at_call 48; (try rw [MN.out]); rw [SH.out]; refine (out_F X (2 ^ t) _ hx HRD.out HB.out (two_lt (by omega))).mono ?_; rintro e w6 ⟨rfl, hr, ho⟩; have R1 := Lib.hid hr; have O1 := Lib.hid ho; have y1 := (ho.cell (b := w.heap.size) (o := 1) (by omega)).trans x1; have y2 := (ho.cell (b := w.heap.size) (o := 2) (by omega)).trans x2; have y3 := (ho.cell (b := w.heap.size + 1) (o := 0) (by omega)).trans x3; clear hr ho) | (go_at_call 67; refine (anyNorm_any (cap := cap) (lb := w.heap.size + 1) vs A c1 _ (ints_only HAD.out O1.out HAG.out) HIN.out R1.out (HB.out.out X _) ((O1.out.cell (by omega)).trans x3) (by omega) HAG.out).mono ?_; rw [ER.out]; rintro e w7 ⟨rfl, ho, hk⟩; have K7 := Lib.hid ((KD.out.trans O1.out.kept).trans ho.kept); have HK7 := Lib.hid hk; clear ho hk))
          go_ret
          exact ⟨by simp, K7.out, HK7.out⟩
        | false =>
          have ER := Lib.hid (show normsF F vs = R from by rw [← HRR.out]; show _ = (match (if inR N = true then some (outF F X (2 ^ N.toNat)) else some F) with | some F1 => normsF F1 vs | none => (false, F)); rw [if_neg (by rw [hI]; decide)])
          have R1 := HRD
          have O1 := Lib.hid (Only.refl g V)
          go_wp2_with (first | (go_at_call 70; refine (isElement_any N _).mono ?_; rw [hI]; rintro e w5 ⟨rfl, rfl⟩) | (go_at_call 67; refine (anyNorm_any (cap := cap) (lb := w.heap.size + 1) vs A c1 _ (ints_only HAD.out O1.out HAG.out) HIN.out R1.out (HB.out) ((O1.out.cell (by omega)).trans x3) (by omega) HAG.out).mono ?_; rw [ER.out]; rintro e w7 ⟨rfl, ho, hk⟩; have K7 := Lib.hid ((KD.out.trans O1.out.kept).trans ho.kept); have HK7 := Lib.hid hk; clear ho hk))
          go_ret
          exact ⟨by simp, K7.out, HK7.out⟩
      | size =>
        injection hmm1 with hmm1
        have hlen := Lib.hid (show vs.length = 1 by omega)
        clear hmm1 hmm2 HM1 HK
        rw [XN1.out (by have := hlen.out; omega)] at e1
        rw [XN2.out (by have := hlen.out; omega)] at e2
        refine wp_region_held_drew (S := fun (wx : World) => wx.cell? ⟨w.heap.size + 2, 0, none⟩ = some (Value.pointer (some ⟨g, X * 4, none⟩)) ∧ wx.cell? ⟨w.heap.size + 2, 1, none⟩ = some (Value.pointer none) ∧ wx.cell? ⟨w.heap.size + 2, 2, none⟩ = some (Value.pointer none)) (by kernel_rfl) ⟨e0, e1, e2⟩ (fun hHeld => ?_)
        have HRD := Lib.hid (show BRow wr.drew g n F from HRW.out)
        have HAD := Lib.hid (HAW.out.over ((Below.refl _ wr).drew))
        have KD := Lib.hid (KW.out.trans (KeptBut.of_below ((Below.refl wr.heap.size wr).drew) (by have := World.rowIs.lt HRW.out; omega)))
        replace x0 : wr.drew.cell? ⟨w.heap.size, 0, none⟩ = some (.string k) := x0
        replace x1 : wr.drew.cell? ⟨w.heap.size, 1, none⟩ = some (.slice A vs.length c1) := x1
        replace x2 : wr.drew.cell? ⟨w.heap.size, 2, none⟩ = some (.int .i64 N) := x2
        replace x3 : wr.drew.cell? ⟨w.heap.size + 1, 0, none⟩ = some (.slice (some ⟨g, 0, none⟩) n cap) := x3
        clear e0 e1 e2 HRW HAW KW
        generalize wr.drew = V at *
        refine wpAnyH_take (i := 0) (oi := ⟨some 25, .indexAddr 111 (.tmp 5) (.const (Value.int IntKind.i64 0)), 0, "fix.go:52", #[], none⟩) (v := ?vn64k0) rfl (by kernel_rfl) (by kernel_rfl) (by kernel_rfl) (fun _ _ _ h => h) (Or.inl ⟨by kernel_rfl, ?yn64k0⟩) (by assumption) ?rn64k0
        case yn64k0 => intro w hSw; (try dsimp only at hSw); go_simp; try with_reducible rfl
        try simp only [Act.put, List.setIfInBounds_toArray, List.set_cons_zero, List.set_cons_succ]
        refine wpAnyH_take (i := 1) (oi := ⟨some 26, .load 90 (.tmp 25), 90, "fix.go:52", #[⟨0, .data⟩], none⟩) (v := ?vn65k1) rfl (by kernel_rfl) (by kernel_rfl) (by kernel_rfl) (fun _ _ _ h => h) (Or.inl ⟨by kernel_rfl, ?yn65k1⟩) (by assumption) ?rn65k1
        case yn65k1 => intro w hSw; (try dsimp only at hSw); go_simp; try with_reducible rfl
        try simp only [Act.put, List.setIfInBounds_toArray, List.set_cons_zero, List.set_cons_succ]
        refine wpAnyH_take (i := 2) (oi := ⟨some 27, .indexAddr 111 (.tmp 5) (.const (Value.int IntKind.i64 1)), 0, "fix.go:52", #[{ on := 6, ground := Ground.gcOnly Departure.lateStores }], none⟩) (v := ?vn66k2) rfl (by kernel_rfl) (by kernel_rfl) (by kernel_rfl) (fun _ _ _ h => h) (Or.inl ⟨by kernel_rfl, ?yn66k2⟩) (by assumption) ?rn66k2
        case yn66k2 => intro w hSw; (try dsimp only at hSw); go_simp; try with_reducible rfl
        try simp only [Act.put, List.setIfInBounds_toArray, List.set_cons_zero, List.set_cons_succ]
        refine wpAnyH_take (i := 3) (oi := ⟨some 28, .load 90 (.tmp 27), 90, "fix.go:52", #[⟨2, .data⟩, { on := 6, ground := Ground.gcOnly Departure.lateStores }], none⟩) (v := ?vn67k3) rfl (by kernel_rfl) (by kernel_rfl) (by kernel_rfl) (fun _ _ _ h => h) (Or.inl ⟨by kernel_rfl, ?yn67k3⟩) (by assumption) ?rn67k3
        case yn67k3 => intro w hSw; (try dsimp only at hSw); go_simp; try with_reducible rfl
        try simp only [Act.put, List.setIfInBounds_toArray, List.set_cons_zero, List.set_cons_succ]
        refine wpAnyH_take (i := 4) (oi := ⟨some 29, .indexAddr 111 (.tmp 5) (.const (Value.int IntKind.i64 2)), 0, "fix.go:52", #[{ on := 7, ground := Ground.gcOnly Departure.lateStores }], none⟩) (v := ?vn68k4) rfl (by kernel_rfl) (by kernel_rfl) (by kernel_rfl) (fun _ _ _ h => h) (Or.inl ⟨by kernel_rfl, ?yn68k4⟩) (by assumption) ?rn68k4
        case yn68k4 => intro w hSw; (try dsimp only at hSw); go_simp; try with_reducible rfl
        try simp only [Act.put, List.setIfInBounds_toArray, List.set_cons_zero, List.set_cons_succ]
        refine wpAnyH_take (i := 5) (oi := ⟨some 30, .load 90 (.tmp 29), 90, "fix.go:52", #[⟨4, .data⟩, { on := 7, ground := Ground.gcOnly Departure.lateStores }], none⟩) (v := ?vn69k5) rfl (by kernel_rfl) (by kernel_rfl) (by kernel_rfl) (fun _ _ _ h => h) (Or.inl ⟨by kernel_rfl, ?yn69k5⟩) (by assumption) ?rn69k5
        case yn69k5 => intro w hSw; (try dsimp only at hSw); go_simp; try with_reducible rfl
        try simp only [Act.put, List.setIfInBounds_toArray, List.set_cons_zero, List.set_cons_succ]
        refine wpAnyH_take (i := 6) (oi := ⟨some 8, .assign (.tmp 26), 90, "fix.go:52", #[⟨1, .data⟩, ⟨0, .phase⟩, ⟨1, .phase⟩, { on := 2, ground := Ground.textOnly Departure.lateStores }, { on := 3, ground := Ground.textOnly Departure.lateStores }, { on := 4, ground := Ground.textOnly Departure.lateStores }, { on := 5, ground := Ground.textOnly Departure.lateStores }], none⟩) (v := ?vn70k6) rfl (by kernel_rfl) (by kernel_rfl) (by kernel_rfl) (fun _ _ _ h => h) (Or.inl ⟨by kernel_rfl, ?yn70k6⟩) (by assumption) ?rn70k6
        case yn70k6 => intro w hSw; (try dsimp only at hSw); go_simp; try with_reducible rfl
        try simp only [Act.put, List.setIfInBounds_toArray, List.set_cons_zero, List.set_cons_succ]
        refine wpAnyH_take (i := 7) (oi := ⟨some 9, .assign (.tmp 28), 90, "fix.go:52", #[⟨3, .data⟩, ⟨6, .chain⟩, ⟨0, .phase⟩, ⟨1, .phase⟩, ⟨2, .phase⟩, ⟨3, .phase⟩, { on := 4, ground := Ground.textOnly Departure.lateStores }, { on := 5, ground := Ground.textOnly Departure.lateStores }, ⟨6, .phase⟩], none⟩) (v := ?vn71k7) rfl (by kernel_rfl) (by kernel_rfl) (by kernel_rfl) (fun _ _ _ h => h) (Or.inl ⟨by kernel_rfl, ?yn71k7⟩) (by assumption) ?rn71k7
        case yn71k7 => intro w hSw; (try dsimp only at hSw); go_simp; try with_reducible rfl
        try simp only [Act.put, List.setIfInBounds_toArray, List.set_cons_zero, List.set_cons_succ]
        refine wpAnyH_take (i := 8) (oi := ⟨some 10, .assign (.tmp 30), 90, "fix.go:52", #[⟨5, .data⟩, ⟨7, .chain⟩, ⟨0, .phase⟩, ⟨1, .phase⟩, ⟨2, .phase⟩, ⟨3, .phase⟩, ⟨4, .phase⟩, ⟨5, .phase⟩, ⟨6, .phase⟩, ⟨7, .phase⟩], none⟩) (v := ?vn72k8) rfl (by kernel_rfl) (by kernel_rfl) (by kernel_rfl) (fun _ _ _ h => h) (Or.inl ⟨by kernel_rfl, ?yn72k8⟩) (by assumption) ?rn72k8
        case yn72k8 => intro w hSw; (try dsimp only at hSw); go_simp; try with_reducible rfl
        try simp only [Act.put, List.setIfInBounds_toArray, List.set_cons_zero, List.set_cons_succ]
        refine wpAnyH_done (by kernel_rfl) ?_ _
        clear hHeld
        simp only [Kd.is] at h0 h1 h2 h3 h4 h5 h6 h7
        have ER := Lib.hid (show normsF (mostF (leastF F X N) X N) vs = R from HRR.out)
        go_wp2_with (first | (go_at_call 49; refine (atLeast_F X N _ hx HRD.out).mono ?_; rintro e w5 ⟨rfl, hr, ho⟩; have R0 := Lib.hid hr; have O0 := Lib.hid ho; have y1 := (ho.cell (b := w.heap.size) (o := 1) (by omega)).trans x1; have y2 := (ho.cell (b := w.heap.size) (o := 2) (by omega)).trans x2; have y3 := (ho.cell (b := w.heap.size + 1) (o := 0) (by omega)).trans x3; clear hr ho) | (go_at_call 50; clear y1 y2 y3; refine (atMost_F X N _ hx R0.out).mono ?_; rintro e w6 ⟨rfl, hr, ho⟩; have R1 := Lib.hid hr; have O1 := Lib.hid (O0.out.trans ho); replace ho := O1.out; have y1 := (ho.cell (b := w.heap.size) (o := 1) (by omega)).trans x1; have y2 := (ho.cell (b := w.heap.size) (o := 2) (by omega)).trans x2; have y3 := (ho.cell (b := w.heap.size + 1) (o := 0) (by omega)).trans x3; clear hr ho) | (go_at_call 67; refine (anyNorm_any (cap := cap) (lb := w.heap.size + 1) vs A c1 _ (ints_only HAD.out O1.out HAG.out) HIN.out R1.out ((HB.out.least X N).most X N) ((O1.out.cell (by omega)).trans x3) (by omega) HAG.out).mono ?_; rw [ER.out]; rintro e w7 ⟨rfl, ho, hk⟩; have K7 := Lib.hid ((KD.out.trans O1.out.kept).trans ho.kept); have HK7 := Lib.hid hk; clear ho hk))
        go_ret
        exact ⟨by simp, K7.out, HK7.out⟩
      | none => cases hmm1
end Go.Proofs.YthakhdbakmlooaaDoor
