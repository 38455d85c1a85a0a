/-
  A row of the document's families in sets, in one block: what is set in one of them.
-/
import Derived.Test.YthakhdbakmlooaaDoorFkC
import Derived.Test.YthakhdbakmlooaaDoorKbC
namespace Go.Proofs.YthakhdbakmlooaaDoor
set_option linter.unusedSimpArgs false
open Go Go.RowKit Go.Shelf Go.Ev

def dCell (b : BdV) (bad : Bool) (j : Nat) : Value := match j with
  | 0 => .int .u64 (b.lo : Int)
  | 1 => .int .u64 (b.hi : Int)
  | 2 => .int .i64 b.mn
  | 3 => .int .i64 b.mx
  | _ => .bool bad
def updG (G : Nat → Bool) (x : Nat) (v : Bool) : Nat → Bool := fun i => if i = x then v else G i
theorem updG_same (G : Nat → Bool) (x : Nat) (v : Bool) : updG G x v x = v := if_pos rfl
theorem updG_other (G : Nat → Bool) {x i : Nat} (v : Bool) (h : i ≠ x) : updG G x v i = G i := if_neg h
theorem updG_self (G : Nat → Bool) (x : Nat) : updG G x (G x) = G := by
  funext i
  unfold updG
  split
  · next h => rw [h]
  · rfl
/-- n families lie at the beginning of a block, F their sets and bounds, G which stand for none -/
def DRow (w : World) (g n : Nat) (F : Nat → BdV) (G : Nat → Bool) : Prop := ∃ (M : Nat) (C : Nat → Value), n * 5 ≤ M ∧ w.rowIs g 58 M C ∧ ∀ i, i < n * 5 → C i = dCell (F (i / 5)) (G (i / 5)) (i % 5)
theorem DRow.cell {w : World} {g n : Nat} {F : Nat → BdV} {G : Nat → Bool} (h : DRow w g n F G) {x : Nat} (hx : x < n) (j : Nat) (hj : j < 5) : w.cell? ⟨g, x * 5 + j, none⟩ = some (dCell (F x) (G x) j) := by
  obtain ⟨M, C, hM, hr, hc⟩ := h
  have := World.rowIs.cell hr (i := x * 5 + j) (by omega)
  rwa [hc _ (by omega), show (x * 5 + j) / 5 = x by omega, show (x * 5 + j) % 5 = j by omega] at this
theorem DRow.put {w : World} {g n : Nat} {F : Nat → BdV} {G : Nat → Bool} (h : DRow w g n F G) (x : Nat) (j : Nat) (hj : j < 5) (b : BdV) (v : Bool) (hb : ∀ i, i < 5 → i ≠ j → dCell b v i = dCell (F x) (G x) i) : DRow (w.setCell ⟨g, x * 5 + j, none⟩ (dCell b v j)) g n (upd F x b) (updG G x v) := by
  obtain ⟨M, C, hM, hr, hc⟩ := h
  refine ⟨M, _, hM, World.rowIs.set hr (x * 5 + j) (dCell b v j), fun i hi => ?_⟩
  by_cases e : i = x * 5 + j
  · rw [if_pos e, e, show (x * 5 + j) / 5 = x by omega, show (x * 5 + j) % 5 = j by omega, upd_same, updG_same]
  · rw [if_neg e, hc i hi]
    by_cases e2 : i / 5 = x
    · rw [e2, upd_same, updG_same]
      exact (hb _ (Nat.mod_lt _ (by decide)) (by omega)).symm
    · rw [upd_other _ _ e2, updG_other _ _ e2]
theorem DRow.at {w w' : World} {g n : Nat} {F : Nat → BdV} {G : Nat → Bool} (h : DRow w g n F G) (e : w'.heap[g]? = w.heap[g]?) : DRow w' g n F G := by
  obtain ⟨M, C, hM, hr, hc⟩ := h
  exact ⟨M, C, hM, World.rowIs.of_block hr e, hc⟩
theorem DRow.lt {w : World} {g n : Nat} {F : Nat → BdV} {G : Nat → Bool} (h : DRow w g n F G) : g < w.heap.size := by
  obtain ⟨M, C, hM, hr, hc⟩ := h
  exact World.rowIs.lt hr
section
variable {g n : Nat} {F : Nat → BdV} {G : Nat → Bool} {w : World}
theorem DRow.frozen (h : DRow w g n F G) (o : Nat) : w.frozen? ⟨g, o, none⟩ = false := by
  obtain ⟨M, C, hM, hr, hc⟩ := h
  exact World.rowIs.frozen hr o
theorem DRow.into (h : DRow w g n F G) (x s v : Nat) (e : v = (F x).lo ||| s) : DRow (w.setCell ⟨g, x * 5, none⟩ (.int .u64 (v : Int))) g n (intoF F x s) G := by
  have := h.put x 0 (by decide) ⟨(F x).lo ||| s, (F x).hi, (F x).mn, (F x).mx⟩ (G x) (by intro i hi hj; match i, hi, hj with | 1, _, _ => rfl | 2, _, _ => rfl | 3, _, _ => rfl | 4, _, _ => rfl)
  rw [updG_self] at this
  rw [e]
  exact this
theorem DRow.out (h : DRow w g n F G) (x s v : Nat) (e : v = sub64 (F x).hi s) : DRow (w.setCell ⟨g, x * 5 + 1, none⟩ (.int .u64 (v : Int))) g n (outF F x s) G := by
  have := h.put x 1 (by decide) ⟨(F x).lo, sub64 (F x).hi s, (F x).mn, (F x).mx⟩ (G x) (by intro i hi hj; match i, hi, hj with | 0, _, _ => rfl | 2, _, _ => rfl | 3, _, _ => rfl | 4, _, _ => rfl)
  rw [updG_self] at this
  rw [e]
  exact this
theorem DRow.least (h : DRow w g n F G) (x : Nat) (k v : Int) (e : v = max (F x).mn k) : DRow (w.setCell ⟨g, x * 5 + 2, none⟩ (.int .i64 v)) g n (leastF F x k) G := by
  have := h.put x 2 (by decide) ⟨(F x).lo, (F x).hi, max (F x).mn k, (F x).mx⟩ (G x) (by intro i hi hj; match i, hi, hj with | 0, _, _ => rfl | 1, _, _ => rfl | 3, _, _ => rfl | 4, _, _ => rfl)
  rw [updG_self] at this
  rw [e]
  exact this
theorem DRow.most (h : DRow w g n F G) (x : Nat) (k v : Int) (e : v = min (F x).mx k) : DRow (w.setCell ⟨g, x * 5 + 3, none⟩ (.int .i64 v)) g n (mostF F x k) G := by
  have := h.put x 3 (by decide) ⟨(F x).lo, (F x).hi, (F x).mn, min (F x).mx k⟩ (G x) (by intro i hi hj; match i, hi, hj with | 0, _, _ => rfl | 1, _, _ => rfl | 2, _, _ => rfl | 4, _, _ => rfl)
  rw [updG_self] at this
  rw [e]
  exact this
theorem DRow.spoil (h : DRow w g n F G) (x : Nat) (v : Bool) : DRow (w.setCell ⟨g, x * 5 + 4, none⟩ (.bool v)) g n F (updG G x v) := by
  have := h.put x 4 (by decide) (F x) v (by intro i hi hj; match i, hi, hj with | 0, _, _ => rfl | 1, _, _ => rfl | 2, _, _ => rfl | 3, _, _ => rfl | 4, _, hj => exact absurd rfl hj)
  rw [upd_self] at this
  exact this
end
/-- what the document keeps of a relation, once: as the program's words, in the document's order -/
def dapartF (F : Nat → BdV) (x y : Nat) : Nat → BdV :=
  let F1 := outF F y ((F x).lo)
  outF F1 x ((F1 y).lo)
def dunionF (F : Nat → BdV) (x y z : Nat) : Nat → BdV :=
  let F1 := intoF F z (((F x).lo ||| (F y).lo))
  let F2 := outF F1 x (nt (F1 z).hi)
  let F3 := outF F2 y (nt (F2 z).hi)
  let F4 := outF F3 z ((nt (F3 x).hi &&& nt (F3 y).hi))
  let F5 := intoF F4 y ((sub64 (F4 z).lo (F4 x).hi))
  let F6 := intoF F5 x ((sub64 (F5 z).lo (F5 y).hi))
  let F7 := mostF F6 z (IntKind.i64.wrap ((F6 x).mx + (F6 y).mx))
  leastF F7 z ((max (F7 x).mn (F7 y).mn))
def dmeetF (F : Nat → BdV) (x y z : Nat) : Nat → BdV :=
  let F1 := intoF F z (((F x).lo &&& (F y).lo))
  let F2 := intoF F1 x ((F1 z).lo)
  let F3 := intoF F2 y ((F2 z).lo)
  let F4 := outF F3 z ((nt (F3 x).hi ||| nt (F3 y).hi))
  let F5 := outF F4 y (sub64 (F4 x).lo (F4 z).hi)
  let F6 := outF F5 x (sub64 (F5 y).lo (F5 z).hi)
  mostF F6 z ((min (F6 x).mx (F6 y).mx))
end Go.Proofs.YthakhdbakmlooaaDoor

/-
  Kinds of relations: how many places each has; which relations are valid.
-/
namespace Go.Proofs.YthakhdbakmlooaaDoor
open Go Go.RowKit Go.Ev

inductive Kd where
  | part | apart | union | meet | minus | has | lacks | size | none
def Kd.is : Kd → Nat → Bool
  | .part, 0 => true
  | .apart, 1 => true
  | .union, 2 => true
  | .meet, 3 => true
  | .minus, 4 => true
  | .has, 5 => true
  | .lacks, 6 => true
  | .size, 7 => true
  | _, _ => false
/-- which kind a text is -/
def KF (x : List UInt8) (d : Kd) : Prop := (x == [112, 97, 114, 116]) = d.is 0 ∧ (x == [97, 112, 97, 114, 116]) = d.is 1 ∧ (x == [117, 110, 105, 111, 110]) = d.is 2 ∧ (x == [109, 101, 101, 116]) = d.is 3 ∧ (x == [109, 105, 110, 117, 115]) = d.is 4 ∧ (x == [104, 97, 115]) = d.is 5 ∧ (x == [108, 97, 99, 107, 115]) = d.is 6 ∧ (x == [115, 105, 122, 101]) = d.is 7
theorem kind_of (x : List UInt8) : ∃ d, KF x d := by
  by_cases h1 : x = [112, 97, 114, 116]
  · subst h1; exact ⟨.part, rfl, rfl, rfl, rfl, rfl, rfl, rfl, rfl⟩
  by_cases h2 : x = [97, 112, 97, 114, 116]
  · subst h2; exact ⟨.apart, rfl, rfl, rfl, rfl, rfl, rfl, rfl, rfl⟩
  by_cases h3 : x = [117, 110, 105, 111, 110]
  · subst h3; exact ⟨.union, rfl, rfl, rfl, rfl, rfl, rfl, rfl, rfl⟩
  by_cases h4 : x = [109, 101, 101, 116]
  · subst h4; exact ⟨.meet, rfl, rfl, rfl, rfl, rfl, rfl, rfl, rfl⟩
  by_cases h5 : x = [109, 105, 110, 117, 115]
  · subst h5; exact ⟨.minus, rfl, rfl, rfl, rfl, rfl, rfl, rfl, rfl⟩
  by_cases h6 : x = [104, 97, 115]
  · subst h6; exact ⟨.has, rfl, rfl, rfl, rfl, rfl, rfl, rfl, rfl⟩
  by_cases h7 : x = [108, 97, 99, 107, 115]
  · subst h7; exact ⟨.lacks, rfl, rfl, rfl, rfl, rfl, rfl, rfl, rfl⟩
  by_cases h8 : x = [115, 105, 122, 101]
  · subst h8; exact ⟨.size, rfl, rfl, rfl, rfl, rfl, rfl, rfl, rfl⟩
  · refine ⟨.none, ?_, ?_, ?_, ?_, ?_, ?_, ?_, ?_⟩ <;> (show _ = false; rw [beq_eq_false_iff_ne]; assumption)
def varsN : Kd → Option Nat
  | .has | .lacks | .size => some 1
  | .part | .apart => some 2
  | .union | .meet | .minus => some 3
  | .none => none
def varsI (d : Kd) : Int := ((varsN d).getD 0 : Nat)
set_option maxRecDepth 100000 in
set_option maxHeartbeats 2000000 in
theorem countVars_any (k : ByteArray) (d : Kd) (h : KF k.toList d) (w : World) :
    Calls Tryd.prog 66 #[.string k] w fun e w' => e = .returned (.tuple #[.int .i64 (varsI d), .bool (varsN d).isSome]) ∧ w' = w := by
  obtain ⟨h0, h1, h2, h3, h4, h5, h6, h7⟩ := h
  cases d
  all_goals
    (simp only [Kd.is] at h0 h1 h2 h3 h4 h5 h6 h7
     go_enter Tryd.func66, Tryd.ntmps66
     go_wp2_with fail)
  all_goals first
    | exact bodyPost_ret (v := .tuple #[.int .i64 2, .bool true]) (by simp [results, Tryd.results66, go_sem]) rfl ⟨rfl, rfl⟩
    | exact bodyPost_ret (v := .tuple #[.int .i64 3, .bool true]) (by simp [results, Tryd.results66, go_sem]) rfl ⟨rfl, rfl⟩
    | exact bodyPost_ret (v := .tuple #[.int .i64 1, .bool true]) (by simp [results, Tryd.results66, go_sem]) rfl ⟨rfl, rfl⟩
    | exact bodyPost_ret (v := .tuple #[.int .i64 0, .bool false]) (by simp [results, Tryd.results66, go_sem]) rfl ⟨rfl, rfl⟩
/-- whether a place is none of n -/
def outB (n : Int) (x : Int) : Bool := decide (x < 0) || decide (n ≤ x)
theorem isOut_any (x n : Int) (nb : Nat) (w : World) (hf : w.cell? ⟨nb, 0, none⟩ = some (.int .i64 n)) :
    Calls Tryd.prog 65 #[.int .i64 x, .pointer (some ⟨nb, 0, none⟩)] w fun e w' => e = .returned (.bool (outB n x)) ∧ Below w.heap.size w w' := by
  unfold outB
  by_cases h : x < 0
  · rw [decide_eq_true h]
    go_enter Tryd.func65, Tryd.ntmps65
    go_wp2_with fail
    go_ret
    exact ⟨rfl, Below.refl _ _⟩
  · rw [decide_eq_false h]
    have h' : 0 ≤ x := by omega
    go_enter Tryd.func65, Tryd.ntmps65
    go_wp2_with fail
    go_ret
    exact ⟨rfl, Below.refl _ _⟩
set_option maxHeartbeats 1000000 in
theorem indexOut_any (xs : List Int) (n : Int) (A : Option Addr) (c1 : Nat) (nb : Nat) (w : World) (ha : Ints w A xs) (hf : w.cell? ⟨nb, 0, none⟩ = some (.int .i64 n)) :
    Calls Tryd.prog 86 #[.slice A xs.length c1, .func (.func 65) #[] #[.pointer (some ⟨nb, 0, none⟩)]] w fun e w' => ∃ r : Int, e = .returned (.int .i64 r) ∧ decide (0 ≤ r) = (xs.any (outB n)) ∧ Below w.heap.size w w' := by
  have hlx := ha.1
  have HA := Lib.hid ha.2.2
  have hsz : nb < w.heap.size := by
    rcases Nat.lt_or_ge nb w.heap.size with h' | h'
    · exact h'
    · simp [World.cell?, Array.getElem?_eq_none h'] at hf
  have C := Lib.hid (fun p (w1 : World) (hb : Below w.heap.size w w1) => isOut_any p n nb w1 ((hb.cell (p := ⟨nb, 0, none⟩) hsz).trans hf))
  go_enter Tryd.func86, Tryd.ntmps86
  go_wp2_with fail
  go_loopw [5, 8] (fun _ i wr => ∃ k : Nat, k ≤ xs.length ∧ i = .int .i64 k ∧ (∀ j (hj : j < k) (hl : j < xs.length), outB n xs[j] = false) ∧ Below w.heap.size w wr) (fun _ i _ => xs.length - (intOf i).toNat)
  case atStart => exact ⟨0, Nat.zero_le _, rfl, fun j hj => absurd hj (Nat.not_lt_zero _), Below.refl _ _⟩
  case round =>
    obtain ⟨k, hk, rfl, hall, hbw⟩ := hrel
    have HL := Lib.hid hall
    have HBW := Lib.hid hbw
    clear hall hbw
    by_cases hlt : k < xs.length
    · obtain ⟨b1, o1, rfl, hb1', g1⟩ := HA.out (by omega)
      have x1 := (HBW.out.cell (p := ⟨b1, o1 + k, none⟩) hb1').trans (g1 k hlt)
      have C2 := Lib.hid (C.out xs[k] wr HBW.out)
      have z1 : (k : Int) < (xs.length : Int) := by omega
      have z2 : (0 : Int) ≤ (k : Int) := by omega
      generalize hx : xs[k] = x at *
      have HX := Lib.hid hx
      clear g1 HA C hx
      cases hp : outB n x with
      | false =>
        rw [hp] at C2
        go_wp2_with (go_at_call 65; refine C2.out.mono ?_; rintro e w1 ⟨rfl, hb⟩; have HB := Lib.hid (HBW.out.trans (hb.mono HBW.out.size)); clear hb)
        go_roundw
        case rel =>
          refine ⟨k + 1, by omega, by go_num, fun j hj hl => ?_, HB.out⟩
          rcases Nat.lt_or_ge j k with h | h
          · exact HL.out j h hl
          · obtain rfl : j = k := by omega
            rw [HX.out]; exact hp
        case measure => simp [intOf]; omega
      | true =>
        rw [hp] at C2
        go_wp2_with (go_at_call 65; refine C2.out.mono ?_; rintro e w1 ⟨rfl, hb⟩; have HB := Lib.hid (HBW.out.trans (hb.mono HBW.out.size)); clear hb)
        go_ret
        refine ⟨_, rfl, ?_, HB.out⟩
        rw [decide_eq_true (by omega)]
        symm
        rw [List.any_eq_true]
        exact ⟨x, by rw [← HX.out]; exact List.getElem_mem _, hp⟩
    · obtain rfl : k = xs.length := by omega
      clear HA C
      go_wp2_with fail
      go_ret
      refine ⟨_, rfl, ?_, HBW.out⟩
      rw [decide_eq_false (by omega)]
      symm
      rw [List.any_eq_false]
      intro x hx
      obtain ⟨j, hj, rfl⟩ := List.getElem_of_mem hx
      rw [HL.out j hj hj]; simp
theorem anyOut_any (xs : List Int) (n : Int) (A : Option Addr) (c1 : Nat) (nb : Nat) (w : World) (ha : Ints w A xs) (hf : w.cell? ⟨nb, 0, none⟩ = some (.int .i64 n)) :
    Calls Tryd.prog 67 #[.slice A xs.length c1, .func (.func 65) #[] #[.pointer (some ⟨nb, 0, none⟩)]] w fun e w' => e = .returned (.bool (xs.any (outB n))) ∧ Below w.heap.size w w' := by
  have C := Lib.hid (indexOut_any xs n A c1 nb w ha hf)
  generalize (xs.any (outB n)) = R at *
  go_enter Tryd.func67, Tryd.ntmps67
  go_wp2_with (go_at_call 86; refine C.out.mono ?_; rintro e w1 ⟨r, rfl, hr, hb⟩; have HB := Lib.hid hb; clear hb)
  go_ret
  exact ⟨by rw [← hr]; rfl, HB.out⟩
/-- whether a relation is one of n families -/
def relB (d : Kd) (vs : List Int) (n : Int) : Bool := match varsN d with
  | some m => decide (vs.length = m) && !vs.any (outB n) && decide (n ≤ 40)
  | none => false
end Go.Proofs.YthakhdbakmlooaaDoor

/-
  Which relations are valid: both sides' words.
-/
namespace Go.Proofs.YthakhdbakmlooaaDoor
open Go Go.RowKit Go.Ev

set_option maxRecDepth 100000 in
set_option maxHeartbeats 4000000 in
theorem ValidRel_p_any (k : ByteArray) (d : Kd) (h : KF k.toList d) (vs : List Int) (N n : Int) (A : Option Addr) (c : Nat) (w : World) (ha : Ints w A vs) :
    Calls Tryd.prog 29 #[.agg #[.string k, .slice A vs.length c, .int .i64 N], .int .i64 n] w fun e w' => e = .returned (.bool (relB d vs n)) ∧ Below w.heap.size w w' := by
  have CV := Lib.hid (countVars_any k d h)
  have hlv := ha.1
  have B2 := Lib.hid (show ∀ o1 o2, Below w.heap.size w ((w.alloc o1).alloc o2) from fun o1 o2 => ((Below.refl _ w).alloc (Nat.le_refl _) _).alloc (by simp) _)
  have AO := Lib.hid (fun (w1 : World) (h1 : Below w.heap.size w w1) (h2 : w1.cell? ⟨w.heap.size + 1, 0, none⟩ = some (.int .i64 n)) => anyOut_any vs n A c (w.heap.size + 1) w1 (ha.over h1) h2)
  clear ha h
  obtain ⟨R, hR⟩ : ∃ R, relB d vs n = R := ⟨_, rfl⟩
  rw [hR]
  have HR := Lib.hid hR
  clear hR
  unfold relB at HR
  unfold varsI at CV
  obtain ⟨V, hV⟩ : ∃ V, varsN d = V := ⟨_, rfl⟩
  simp only [hV] at CV HR
  clear hV
  have c0 : ∀ o, ((w.alloc o).alloc (.cells #[.int .i64 n] 3)).cell? ⟨w.heap.size + 1, 0, none⟩ = some (.int .i64 n) := fun o => by
    have := heap_alloc2_new w o (.cells #[.int .i64 n] 3)
    simp only [World.cell?, this]; rfl
  have C0 := Lib.hid c0
  clear c0
  cases V with
  | none =>
    obtain rfl : R = false := HR.out.symm
    simp only [Option.getD_none, Option.isSome_none] at CV
    go_enter Tryd.func29, Tryd.ntmps29
    go_wp2_with (go_at_call 66; refine (CV.out _).mono ?_; rintro e w1 ⟨rfl, rfl⟩)
    go_ret
    exact ⟨rfl, B2.out _ _⟩
  | some m =>
    simp only [Option.getD_some, Option.isSome_some] at CV HR
    by_cases hn : n ≤ 40
    · by_cases hm : (vs.length : Int) = (m : Int)
      · have hb1 : ((vs.length : Int) == (m : Int)) = true := by simpa using hm
        have hmm : vs.length = m := by omega
        have HR2 := Lib.hid (show (!vs.any (outB n)) = R by rw [← HR.out, decide_eq_true hmm, decide_eq_true hn]; simp)
        clear HR hm hmm
        generalize vs.any (outB n) = O at *
        generalize vs.length = lv at *
        go_enter Tryd.func29, Tryd.ntmps29
        go_wp2_with (first | (go_at_call 66; refine (CV.out _).mono ?_; rintro e w1 ⟨rfl, rfl⟩) | (go_at_call 67; refine (AO.out _ (B2.out _ _) (C0.out _)).mono ?_; rintro e w2 ⟨rfl, hb⟩; have HB := Lib.hid ((B2.out _ _).trans (hb.mono (by simp; omega))); clear hb))
        go_ret
        exact ⟨by rw [← HR2.out]; rfl, HB.out⟩
      · have hb1 : ((vs.length : Int) == (m : Int)) = false := by simpa using hm
        have hmm : ¬ vs.length = m := by omega
        obtain rfl : R = false := by rw [← HR.out, decide_eq_false hmm]; rfl
        clear HR hm hmm
        generalize vs.length = lv at *
        go_enter Tryd.func29, Tryd.ntmps29
        go_wp2_with (go_at_call 66; refine (CV.out _).mono ?_; rintro e w1 ⟨rfl, rfl⟩)
        go_ret
        exact ⟨rfl, B2.out _ _⟩
    · obtain rfl : R = false := by rw [← HR.out, decide_eq_false hn]; simp
      clear HR
      generalize vs.length = lv at *
      go_enter Tryd.func29, Tryd.ntmps29
      go_wp2_with (go_at_call 66; refine (CV.out _).mono ?_; rintro e w1 ⟨rfl, rfl⟩)
      go_ret
      exact ⟨rfl, B2.out _ _⟩
set_option maxRecDepth 100000 in
set_option maxHeartbeats 8000000 in
theorem ValidRel_r_any (k : ByteArray) (d : Kd) (h : KF k.toList d) (vs : List Int) (N n : Int) (A : Option Addr) (c : Nat) (w : World) (ha : Ints w A vs) :
    Calls Tryd.prog 30 #[.agg #[.string k, .slice A vs.length c, .int .i64 N], .int .i64 n] w fun e w' => e = .returned (.bool (relB d vs n)) ∧ Below w.heap.size w w' := by
  have hlv := ha.1
  have HA := Lib.hid ha.2.2
  clear ha
  obtain ⟨R, hR⟩ : ∃ R, relB d vs n = R := ⟨_, rfl⟩
  rw [hR]
  have HR := Lib.hid hR
  clear hR
  unfold relB at HR
  obtain ⟨h0, h1, h2, h3, h4, h5, h6, h7⟩ := h
  cases d
  all_goals
    (simp only [Kd.is] at h0 h1 h2 h3 h4 h5 h6 h7
     simp only [varsN] at HR
     go_enter Tryd.func30, Tryd.ntmps30
     go_wp2_with fail)
  all_goals first
    | (go_ret
       exact ⟨by rw [← HR.out]; rfl, (Below.refl _ _).alloc (Nat.le_refl _) _⟩)
    | (clear h0 h1 h2 h3 h4 h5 h6 h7
       have B1 := Lib.hid (show Below w.heap.size w (w.alloc (.cells #[.string k, .slice A vs.length c, .int .i64 N] 38)) from (Below.refl _ _).alloc (Nat.le_refl _) _)
       go_loopw [6] (fun i wr => ∃ q : Nat, q ≤ vs.length ∧ i = .int .i64 q ∧ (∀ j (hj : j < q) (hl : j < vs.length), outB n vs[j] = false) ∧ wr = w.alloc (.cells #[.string k, .slice A vs.length c, .int .i64 N] 38)) (fun i _ => vs.length - (intOf i).toNat)
       case atStart => exact ⟨0, Nat.zero_le _, rfl, fun j hj => absurd hj (Nat.not_lt_zero _), rfl⟩
       case round =>
         obtain ⟨q, hq, rfl, hall, rfl⟩ := hrel
         have HL := Lib.hid hall
         clear hall
         by_cases hlt : q < vs.length
         · obtain ⟨b1, o1, rfl, hb1', g1⟩ := HA.out (by omega)
           have x1 := (B1.out.cell (p := ⟨b1, o1 + q, none⟩) hb1').trans (g1 q hlt)
           have z1 : (q : Int) < (vs.length : Int) := by omega
           have z2 : (0 : Int) ≤ (q : Int) := by omega
           have HM := Lib.hid (List.getElem_mem hlt)
           generalize hx : vs[q] = x at *
           have HX := Lib.hid hx
           clear g1 HA hx
           by_cases hy : x < 0
           · have HZ := Lib.hid (show R = false by
               rw [← HR.out, show vs.any (outB n) = true from List.any_eq_true.2 ⟨x, HM.out, by unfold outB; rw [decide_eq_true hy]; rfl⟩]; simp)
             clear HR
             go_wp2_with fail
             go_ret
             exact ⟨by rw [HZ.out]; rfl, B1.out⟩
           · by_cases hz : n ≤ x
             · have HZ := Lib.hid (show R = false by
                 rw [← HR.out, show vs.any (outB n) = true from List.any_eq_true.2 ⟨x, HM.out, by unfold outB; rw [decide_eq_true hz, Bool.or_true]⟩]; simp)
               clear HR
               go_wp2_with fail
               go_ret
               exact ⟨by rw [HZ.out]; rfl, B1.out⟩
             · have HO := Lib.hid (show outB n x = false by unfold outB; rw [decide_eq_false hy, decide_eq_false hz]; rfl)
               go_wp2_with fail
               go_roundw
               case rel =>
                 refine ⟨q + 1, by omega, by go_num, fun j hj hl => ?_, by first | exact trivial | rfl⟩
                 rcases Nat.lt_or_ge j q with h | h
                 · exact HL.out j h hl
                 · obtain rfl : j = q := by omega
                   rw [HX.out]; exact HO.out
               case measure => simp [intOf]; omega
         · obtain rfl : q = vs.length := by omega
           have hno : vs.any (outB n) = false := by
             rw [List.any_eq_false]
             intro x hx
             obtain ⟨j, hj, rfl⟩ := List.getElem_of_mem hx
             rw [HL.out j hj hj]; simp
           have hr := HR.out
           rw [hno, Bool.not_false, Bool.and_true] at hr
           have HZ := Lib.hid hr
           clear hr hno HR HL HA
           go_wp2_with fail
           all_goals
             (go_ret
              refine ⟨?_, B1.out⟩
              rw [← HZ.out]
              simp <;> omega))
end Go.Proofs.YthakhdbakmlooaaDoor
