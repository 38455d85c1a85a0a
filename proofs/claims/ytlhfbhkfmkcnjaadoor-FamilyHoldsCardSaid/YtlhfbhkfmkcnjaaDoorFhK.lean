/-
  Kinds of relations: how many places each has; which relations are valid.
-/
import Derived.Test.YtlhfbhkfmkcnjaaDoorFhA
namespace Go.Proofs.YtlhfbhkfmkcnjaaDoor
open Go Go.RowKit Go.Ev

inductive Kd where
  | part | apart | union | meet | minus | has | lacks | size | none
def Kd.is : Kd → Nat → Bool
  | .part, 0 => true
  | .apart, 1 => true
  | .union, 2 => true
  | .meet, 3 => true
  | .minus, 4 => true
  | .has, 5 => true
  | .lacks, 6 => true
  | .size, 7 => true
  | _, _ => false
/-- which kind a text is -/
def KF (x : List UInt8) (d : Kd) : Prop := (x == [112, 97, 114, 116]) = d.is 0 ∧ (x == [97, 112, 97, 114, 116]) = d.is 1 ∧ (x == [117, 110, 105, 111, 110]) = d.is 2 ∧ (x == [109, 101, 101, 116]) = d.is 3 ∧ (x == [109, 105, 110, 117, 115]) = d.is 4 ∧ (x == [104, 97, 115]) = d.is 5 ∧ (x == [108, 97, 99, 107, 115]) = d.is 6 ∧ (x == [115, 105, 122, 101]) = d.is 7
theorem kind_of (x : List UInt8) : ∃ d, KF x d := by
  by_cases h1 : x = [112, 97, 114, 116]
  · subst h1; exact ⟨.part, rfl, rfl, rfl, rfl, rfl, rfl, rfl, rfl⟩
  by_cases h2 : x = [97, 112, 97, 114, 116]
  · subst h2; exact ⟨.apart, rfl, rfl, rfl, rfl, rfl, rfl, rfl, rfl⟩
  by_cases h3 : x = [117, 110, 105, 111, 110]
  · subst h3; exact ⟨.union, rfl, rfl, rfl, rfl, rfl, rfl, rfl, rfl⟩
  by_cases h4 : x = [109, 101, 101, 116]
  · subst h4; exact ⟨.meet, rfl, rfl, rfl, rfl, rfl, rfl, rfl, rfl⟩
  by_cases h5 : x = [109, 105, 110, 117, 115]
  · subst h5; exact ⟨.minus, rfl, rfl, rfl, rfl, rfl, rfl, rfl, rfl⟩
  by_cases h6 : x = [104, 97, 115]
  · subst h6; exact ⟨.has, rfl, rfl, rfl, rfl, rfl, rfl, rfl, rfl⟩
  by_cases h7 : x = [108, 97, 99, 107, 115]
  · subst h7; exact ⟨.lacks, rfl, rfl, rfl, rfl, rfl, rfl, rfl, rfl⟩
  by_cases h8 : x = [115, 105, 122, 101]
  · subst h8; exact ⟨.size, rfl, rfl, rfl, rfl, rfl, rfl, rfl, rfl⟩
  · refine ⟨.none, ?_, ?_, ?_, ?_, ?_, ?_, ?_, ?_⟩ <;> (show _ = false; rw [beq_eq_false_iff_ne]; assumption)
def varsN : Kd → Option Nat
  | .has | .lacks | .size => some 1
  | .part | .apart => some 2
  | .union | .meet | .minus => some 3
  | .none => none
def varsI (d : Kd) : Int := ((varsN d).getD 0 : Nat)
set_option maxRecDepth 100000 in
set_option maxHeartbeats 2000000 in
theorem countVars_any (k : ByteArray) (d : Kd) (h : KF k.toList d) (w : World) :
    Calls Tryd.prog 109 #[.string k] w fun e w' => e = .returned (.tuple #[.int .i64 (varsI d), .bool (varsN d).isSome]) ∧ w' = w := by
  obtain ⟨h0, h1, h2, h3, h4, h5, h6, h7⟩ := h
  cases d
  all_goals
    (simp only [Kd.is] at h0 h1 h2 h3 h4 h5 h6 h7
     go_enter Tryd.func109, Tryd.ntmps109
     go_wp2_with fail)
  all_goals first
    | exact bodyPost_ret (v := .tuple #[.int .i64 2, .bool true]) (by simp [results, Tryd.results109, go_sem]) rfl ⟨rfl, rfl⟩
    | exact bodyPost_ret (v := .tuple #[.int .i64 3, .bool true]) (by simp [results, Tryd.results109, go_sem]) rfl ⟨rfl, rfl⟩
    | exact bodyPost_ret (v := .tuple #[.int .i64 1, .bool true]) (by simp [results, Tryd.results109, go_sem]) rfl ⟨rfl, rfl⟩
    | exact bodyPost_ret (v := .tuple #[.int .i64 0, .bool false]) (by simp [results, Tryd.results109, go_sem]) rfl ⟨rfl, rfl⟩
/-- whether a place is none of n -/
def outB (n : Int) (x : Int) : Bool := decide (x < 0) || decide (n ≤ x)
theorem isOut_any (x n : Int) (nb : Nat) (w : World) (hf : w.cell? ⟨nb, 0, none⟩ = some (.int .i64 n)) :
    Calls Tryd.prog 108 #[.int .i64 x, .pointer (some ⟨nb, 0, none⟩)] w fun e w' => e = .returned (.bool (outB n x)) ∧ Below w.heap.size w w' := by
  unfold outB
  by_cases h : x < 0
  · rw [decide_eq_true h]
    go_enter Tryd.func108, Tryd.ntmps108
    go_wp2_with fail
    go_ret
    exact ⟨rfl, Below.refl _ _⟩
  · rw [decide_eq_false h]
    have h' : 0 ≤ x := by omega
    go_enter Tryd.func108, Tryd.ntmps108
    go_wp2_with fail
    go_ret
    exact ⟨rfl, Below.refl _ _⟩
set_option maxHeartbeats 1000000 in
theorem indexOut_any (xs : List Int) (n : Int) (A : Option Addr) (c1 : Nat) (nb : Nat) (w : World) (ha : Ints w A xs) (hf : w.cell? ⟨nb, 0, none⟩ = some (.int .i64 n)) :
    Calls Tryd.prog 135 #[.slice A xs.length c1, .func (.func 108) #[] #[.pointer (some ⟨nb, 0, none⟩)]] w fun e w' => ∃ r : Int, e = .returned (.int .i64 r) ∧ decide (0 ≤ r) = (xs.any (outB n)) ∧ Below w.heap.size w w' := by
  have hlx := ha.1
  have HA := Lib.hid ha.2.2
  have hsz : nb < w.heap.size := by
    rcases Nat.lt_or_ge nb w.heap.size with h' | h'
    · exact h'
    · simp [World.cell?, Array.getElem?_eq_none h'] at hf
  have C := Lib.hid (fun p (w1 : World) (hb : Below w.heap.size w w1) => isOut_any p n nb w1 ((hb.cell (p := ⟨nb, 0, none⟩) hsz).trans hf))
  go_enter Tryd.func135, Tryd.ntmps135
  go_wp2_with fail
  go_loopw [5, 8] (fun _ i wr => ∃ k : Nat, k ≤ xs.length ∧ i = .int .i64 k ∧ (∀ j (hj : j < k) (hl : j < xs.length), outB n xs[j] = false) ∧ Below w.heap.size w wr) (fun _ i _ => xs.length - (intOf i).toNat)
  case atStart => exact ⟨0, Nat.zero_le _, rfl, fun j hj => absurd hj (Nat.not_lt_zero _), Below.refl _ _⟩
  case round =>
    obtain ⟨k, hk, rfl, hall, hbw⟩ := hrel
    have HL := Lib.hid hall
    have HBW := Lib.hid hbw
    clear hall hbw
    by_cases hlt : k < xs.length
    · obtain ⟨b1, o1, rfl, hb1', g1⟩ := HA.out (by omega)
      have x1 := (HBW.out.cell (p := ⟨b1, o1 + k, none⟩) hb1').trans (g1 k hlt)
      have C2 := Lib.hid (C.out xs[k] wr HBW.out)
      have z1 : (k : Int) < (xs.length : Int) := by omega
      have z2 : (0 : Int) ≤ (k : Int) := by omega
      generalize hx : xs[k] = x at *
      have HX := Lib.hid hx
      clear g1 HA C hx
      cases hp : outB n x with
      | false =>
        rw [hp] at C2
        go_wp2_with (go_at_call 108; refine C2.out.mono ?_; rintro e w1 ⟨rfl, hb⟩; have HB := Lib.hid (HBW.out.trans (hb.mono HBW.out.size)); clear hb)
        go_roundw
        case rel =>
          refine ⟨k + 1, by omega, by go_num, fun j hj hl => ?_, HB.out⟩
          rcases Nat.lt_or_ge j k with h | h
          · exact HL.out j h hl
          · obtain rfl : j = k := by omega
            rw [HX.out]; exact hp
        case measure => simp [intOf]; omega
      | true =>
        rw [hp] at C2
        go_wp2_with (go_at_call 108; refine C2.out.mono ?_; rintro e w1 ⟨rfl, hb⟩; have HB := Lib.hid (HBW.out.trans (hb.mono HBW.out.size)); clear hb)
        go_ret
        refine ⟨_, rfl, ?_, HB.out⟩
        rw [decide_eq_true (by omega)]
        symm
        rw [List.any_eq_true]
        exact ⟨x, by rw [← HX.out]; exact List.getElem_mem _, hp⟩
    · obtain rfl : k = xs.length := by omega
      clear HA C
      go_wp2_with fail
      go_ret
      refine ⟨_, rfl, ?_, HBW.out⟩
      rw [decide_eq_false (by omega)]
      symm
      rw [List.any_eq_false]
      intro x hx
      obtain ⟨j, hj, rfl⟩ := List.getElem_of_mem hx
      rw [HL.out j hj hj]; simp
theorem anyOut_any (xs : List Int) (n : Int) (A : Option Addr) (c1 : Nat) (nb : Nat) (w : World) (ha : Ints w A xs) (hf : w.cell? ⟨nb, 0, none⟩ = some (.int .i64 n)) :
    Calls Tryd.prog 110 #[.slice A xs.length c1, .func (.func 108) #[] #[.pointer (some ⟨nb, 0, none⟩)]] w fun e w' => e = .returned (.bool (xs.any (outB n))) ∧ Below w.heap.size w w' := by
  have C := Lib.hid (indexOut_any xs n A c1 nb w ha hf)
  generalize (xs.any (outB n)) = R at *
  go_enter Tryd.func110, Tryd.ntmps110
  go_wp2_with (go_at_call 135; refine C.out.mono ?_; rintro e w1 ⟨r, rfl, hr, hb⟩; have HB := Lib.hid hb; clear hb)
  go_ret
  exact ⟨by rw [← hr]; rfl, HB.out⟩
/-- whether a relation is one of n families -/
def relB (d : Kd) (vs : List Int) (n : Int) : Bool := match varsN d with
  | some m => decide (vs.length = m) && !vs.any (outB n) && decide (n ≤ 40)
  | none => false
end Go.Proofs.YtlhfbhkfmkcnjaaDoor
