/-
  Sums of products of two slices of integers; what is at most what; products.
-/
import Derived.Test.YtpejolnjnkcolaaDoorDmA
import Derived.IntWalk
import Derived.Deep.QuietTactic
import Derived.BigQuiet
import Derived.WalkSmall
import Derived.OneCell
namespace Go.Proofs.YtpejolnjnkcolaaDoor
open Go.RowKit

/-- a slice of integers that lies in a world -/
def Ints (w : World) (A : Option Addr) (xs : List Int) : Prop := xs.length ≤ 1000000 ∧ (∀ x ∈ xs, -9223372036854775808 ≤ x ∧ x ≤ 9223372036854775807) ∧
  (0 < xs.length → ∃ b off, A = some ⟨b, off, none⟩ ∧ b < w.heap.size ∧ ∀ i (h : i < xs.length), w.cell? ⟨b, off + i, none⟩ = some (.int .i64 xs[i]))
theorem Ints.over {w w' : World} {A : Option Addr} {xs : List Int} (h : Ints w A xs) (k : Below w.heap.size w w') : Ints w' A xs :=
  ⟨h.1, h.2.1, fun hp => by
    obtain ⟨b, off, e, hb, hc⟩ := h.2.2 hp
    exact ⟨b, off, e, Nat.lt_of_lt_of_le hb k.size, fun i hi => (k.cell (p := ⟨b, off + i, none⟩) hb).trans (hc i hi)⟩⟩
def qsum (cs vs : List Int) (k : Nat) : Int := psum (fun i => cs.getD i 0 * (vs.getD i 0 / 4294967296)) k
def rsum (cs vs : List Int) (k : Nat) : Int := psum (fun i => cs.getD i 0 * (vs.getD i 0 % 4294967296)) k
def dot (cs vs : List Int) : Int := psum (fun i => cs.getD i 0 * vs.getD i 0) vs.length
theorem dot_parts (cs vs : List Int) : dot cs vs = 4294967296 * qsum cs vs vs.length + rsum cs vs vs.length := psum_parts _

set_option maxHeartbeats 4000000 in
theorem total_any (cs vs : List Int) (A B : Option Addr) (c1 c2 : Nat) (w : World) (ha : Ints w A cs) (hb : Ints w B vs) (hl : vs.length ≤ cs.length) (hn : vs.length ≤ 100) (hc : ∀ x ∈ cs, -1000000 ≤ x ∧ x ≤ 1000000) :
    Calls Tryd.prog 45 #[.slice A cs.length c1, .slice B vs.length c2] w fun e w' => e = .returned (wideV (dot cs vs)) ∧ Below w.heap.size w w' := by
  obtain ⟨ha1, ha2, ha3⟩ := ha
  obtain ⟨hb1, hb2, hb3⟩ := hb
  have qb : ∀ i, i < vs.length → -2147483648000000 ≤ cs.getD i 0 * (vs.getD i 0 / 4294967296) ∧ cs.getD i 0 * (vs.getD i 0 / 4294967296) ≤ 2147483648000000 := fun i hi => by
    have h1 := hc (cs.getD i 0) (by rw [List.getD_eq_getElem?_getD, List.getElem?_eq_getElem (by omega)]; exact List.getElem_mem _)
    have h2 := hb2 (vs.getD i 0) (by rw [List.getD_eq_getElem?_getD, List.getElem?_eq_getElem hi]; exact List.getElem_mem _)
    have := mul_bound (A := 1000000) (B := 2147483648) h1 (b := vs.getD i 0 / 4294967296) (by omega)
    omega
  have rb : ∀ i, i < vs.length → -4294967296000000 ≤ cs.getD i 0 * (vs.getD i 0 % 4294967296) ∧ cs.getD i 0 * (vs.getD i 0 % 4294967296) ≤ 4294967296000000 := fun i hi => by
    have h1 := hc (cs.getD i 0) (by rw [List.getD_eq_getElem?_getD, List.getElem?_eq_getElem (by omega)]; exact List.getElem_mem _)
    have := mul_bound (A := 1000000) (B := 4294967296) h1 (b := vs.getD i 0 % 4294967296) (by omega)
    omega
  have qB : ∀ k, k ≤ vs.length → -214748364800000000 ≤ qsum cs vs k ∧ qsum cs vs k ≤ 214748364800000000 := fun k hk => by
    have := psum_bound (g := fun i => cs.getD i 0 * (vs.getD i 0 / 4294967296)) (B := 2147483648000000) k fun i hi => qb i (by omega)
    unfold qsum
    omega
  have rB : ∀ k, k ≤ vs.length → -429496729600000000 ≤ rsum cs vs k ∧ rsum cs vs k ≤ 429496729600000000 := fun k hk => by
    have := psum_bound (g := fun i => cs.getD i 0 * (vs.getD i 0 % 4294967296)) (B := 4294967296000000) k fun i hi => rb i (by omega)
    unfold rsum
    omega
  have wh := fun w => whole_any (qsum cs vs vs.length) (rsum cs vs vs.length) w (by have := qB _ (Nat.le_refl _); omega) (by have := rB _ (Nat.le_refl _); omega)
  rw [← dot_parts] at wh
  unfold wideV at *
  have WH := Lib.hid wh
  clear wh
  have QB := Lib.hid qb
  have RB := Lib.hid rb
  have QQ := Lib.hid qB
  have RR := Lib.hid rB
  have HA := Lib.hid ha3
  have HB := Lib.hid hb3
  have HV := Lib.hid hb2
  clear qb rb qB rB ha3 hb3 hb2 ha2 hc
  go_enter Tryd.func45, Tryd.ntmps45
  go_wp2_with fail
  go_loopw [5, 6, 7] (fun h l i wr => ∃ k : Nat, k ≤ vs.length ∧ i = .int .i64 k ∧ h = .int .i64 (qsum cs vs k) ∧ l = .int .i64 (rsum cs vs k) ∧ Below w.heap.size w wr ∧ wr.heap[w.heap.size]? = some (.cells #[.int .i64 0, .int .i64 0] 65 (0, 0))) (fun _ _ i _ => vs.length - (intOf i).toNat)
  case atStart => exact ⟨0, Nat.zero_le _, rfl, rfl, rfl, (Below.refl _ _).alloc (Nat.le_refl _) _, by show (w.heap.push _)[w.heap.size]? = _; simp⟩
  case round =>
    obtain ⟨k, hk, rfl, rfl, rfl, hbw, hbx⟩ := hrel
    have hsz := lt_of_block hbx
    have HBX := Lib.hid hbx
    clear hbx
    by_cases hlt : k < vs.length
    · obtain ⟨b1, o1, rfl, hb1', g1⟩ := HA.out (by omega)
      obtain ⟨b2, o2, rfl, hb2', g2⟩ := HB.out (by omega)
      have x1 := (hbw.cell (p := ⟨b1, o1 + k, none⟩) hb1').trans (g1 k (by omega))
      have x2 := (hbw.cell (p := ⟨b2, o2 + k, none⟩) hb2').trans (g2 k hlt)
      have q1 := QB.out k hlt
      have r1 := RB.out k hlt
      have q2 := QQ.out k hk
      have r2 := RR.out k hk
      have v1 := HV.out _ (List.getElem_mem hlt)
      have eq' : qsum cs vs (k + 1) = qsum cs vs k + cs.getD k 0 * (vs.getD k 0 / 4294967296) := rfl
      have er' : rsum cs vs (k + 1) = rsum cs vs k + cs.getD k 0 * (vs.getD k 0 % 4294967296) := rfl
      have ec : cs.getD k 0 = cs[k] := by rw [List.getD_eq_getElem?_getD, List.getElem?_eq_getElem (by omega)]; rfl
      have ev : vs.getD k 0 = vs[k] := by rw [List.getD_eq_getElem?_getD, List.getElem?_eq_getElem (by omega)]; rfl
      rw [ec, ev] at q1 r1 eq' er'
      clear ec ev g1 g2
      have EQ := Lib.hid eq'
      have ER := Lib.hid er'
      clear eq' er'
      generalize cs[k] = c at *
      generalize vs[k] = v at *
      generalize qsum cs vs k = Q at *
      generalize rsum cs vs k = R at *
      have z3 : (k : Int) < (vs.length : Int) := by omega
      have z4 : (0 : Int) ≤ (k : Int) := by omega
      have z5 : (k : Int) < (cs.length : Int) := by omega
      have em : v - v / 4294967296 * 4294967296 = v % 4294967296 := by omega
      have w1 : IntKind.i64.wrap (c * (v / 4294967296)) = c * (v / 4294967296) := IntWalk.i64_in _ (by omega)
      have w2 : IntKind.i64.wrap (c * (v % 4294967296)) = c * (v % 4294967296) := IntWalk.i64_in _ (by omega)
      have HBW := Lib.hid hbw
      clear HA HB HV QB RB QQ RR hbw
      go_wp2_with fail
      go_quiet (fail)
      go_wp2_with fail
      go_roundw
      case rel => exact ⟨k + 1, by omega, by go_num, by rw [EQ.out], by rw [ER.out], below_drewN HBW.out _, HBX.out⟩
      case measure => simp [intOf]; omega
    · obtain rfl : k = vs.length := by omega
      have HBW := Lib.hid hbw
      clear HA HB HV QB RB QQ RR hbw
      go_wp2_with fail
      refine (WH.out _).mono ?_
      rintro e w1 ⟨rfl, hb⟩
      have hx := (hb.block w.heap.size hsz).trans HBX.out
      have c0 : w1.cell? ⟨w.heap.size, 0, none⟩ = some (.int .i64 0) := by simp [World.cell?, hx]
      have c1' : w1.cell? ⟨w.heap.size, 1, none⟩ = some (.int .i64 0) := by simp [World.cell?, hx]
      have f0 : ∀ o, w1.frozen? ⟨w.heap.size, o, none⟩ = false := fun o => by simp [World.frozen?, hx]
      have hb2 := Lib.hid (HBW.out.trans (hb.mono HBW.out.size))
      clear hb hx
      go_wp2_with fail
      exact bodyPost_ret (v := .agg #[.int .i64 (dot cs vs / 4294967296), .int .i64 (dot cs vs % 4294967296)]) (by simp [results, Tryd.results45, go_sem, c0, c1']) rfl ⟨rfl, ((hb2.out.setCell (Nat.le_refl _) _).setCell (Nat.le_refl _) _)⟩
end Go.Proofs.YtpejolnjnkcolaaDoor
