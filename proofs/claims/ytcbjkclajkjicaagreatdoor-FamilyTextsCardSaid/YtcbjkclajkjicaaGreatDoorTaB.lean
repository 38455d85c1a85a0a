/-
  Reading: the document's list in braces.
-/
import Derived.Laws.AppendOwnNone
import Derived.Maps.AppendAt
import Derived.Test.YtcbjkclajkjicaaGreatDoorTaA
import Derived.Deep.RegionHeld
import Derived.Deep.CutRange
import Derived.Deep.WholeRow
import Derived.Laws.ResultCell
namespace Go.Proofs.YtcbjkclajkjicaaGreatDoor
set_option linter.unusedSimpArgs false
set_option linter.unusedVariables false
open Go Go.RowKit Go.Lib Go.Ev

set_option maxRecDepth 100000 in
theorem wpList_append_ints {w : World} {ops : Array Oper} {rest : List Oper} {o : Oper} {a : Act} {Q : Exit → Act → World → Prop} (hgd : o.guard = none) (s x : Operand)
    (ho : o.op = .call { callee := .builtin .append, args := #[s, x], argTypes := #[22, 22] })
    (base : Nat) (v : Value) (xs : List Int) (hs : a.eval s = v) (hown : w.ownsRow base 3 1 v xs.length (xs.map (Value.int .i64)))
    (A : Option Addr) (c : Nat) (ys : List Int) (hx : a.eval x = .slice A ys.length c) (hy : Ints w A ys) (hz : A = none → c = 0) (h63 : xs.length + ys.length ≤ 1000000) (hbase : base ≤ w.heap.size)
    (h : ∀ v' w', w'.ownsRow base 3 1 v' (xs ++ ys).length ((xs ++ ys).map (Value.int .i64)) → w.grownBy w' v.ownBlock → wpList Tryz.prog ops Q rest (a.put o.dst v') w') : wpList Tryz.prog ops Q (o :: rest) a w := by
  obtain ⟨i0, hi, hz0, hz1, hz2⟩ := info_parts infoI
  cases A with
  | none =>
    have h0 : ys.length = 0 := by
      rcases Nat.eq_zero_or_pos ys.length with h | h
      · exact h
      · obtain ⟨b, off, e, _⟩ := hy.2.2 h; cases e
    obtain rfl : ys = [] := List.eq_nil_of_length_eq_zero h0
    obtain rfl := hz rfl
    refine wpList_append_own_none hgd s x 22 ho base 3 i0 1 Tryz.underlying22 hi v xs.length (xs.map (Value.int .i64)) hs hown hx ?_
    exact h v w (by simpa using hown) ⟨rfl, rfl, rfl, Nat.le_refl _, fun _ _ _ => rfl⟩
  | some ad =>
    refine wpList_append_own_at _ hgd s x 22 ho base 3 i0 (.int .i64 0) 1 8 Tryz.underlying22 hi hz0 hz1 hz2 rfl (by decide) v xs.length (xs.map (Value.int .i64)) hs hown ad ys.length c (ys.map (Value.int .i64)) hx (by simp) ?c1 ?c2 ?c3 ?c4 hbase ?_
    case c1 =>
      intro j u hj
      obtain ⟨hjl, he⟩ := List.getElem?_eq_some_iff.1 hj
      have hjx : j < ys.length := by simpa using hjl
      obtain ⟨b, off, e, hb, hc⟩ := hy.2.2 (by omega)
      injection e with e
      subst e
      rw [Addr.add_mid, hc j hjx, ← he]
      simp
    case c2 =>
      intro u hu
      obtain ⟨y, _, rfl⟩ := List.mem_map.1 hu
      rfl
    case c3 => unfold maxLen; omega
    case c4 => omega
    intro v' w' hown' hgrow _ _
    exact h v' w' (by rw [List.length_append, List.map_append]; exact hown') hgrow
/-- a row of one's own, as a list -/
theorem ints_of_owns {W : World} {base : Nat} {v : Value} {L : List Int} (h : W.ownsRow base 3 1 v L.length (L.map (Value.int .i64))) (hl : L.length ≤ 1000000) (hr : ∀ x ∈ L, -9223372036854775808 ≤ x ∧ x ≤ 9223372036854775807) : ∃ G cap, v = .slice G L.length cap ∧ Ints W G L ∧ ∀ b o, G = some ⟨b, o, none⟩ → base ≤ b := by
  obtain ⟨h1, h2⟩ := h
  rcases h2 with ⟨h0, hz⟩ | ⟨g, cap, cur, hv, hb, hg, hc, hm, hs, ht⟩
  · exact ⟨none, 0, by rw [h0, hz], ⟨hl, hr, fun hp => by omega⟩, fun b o e => by cases e⟩
  · refine ⟨_, cap, hv, ⟨hl, hr, fun _ => ⟨g, 0, rfl, (Array.getElem?_eq_some_iff.1 hg).1, fun i hi => ?_⟩⟩, fun b o e => by cases e; exact hb⟩
    have e : (L.map (Value.int .i64))[i]? = some (.int .i64 L[i]) := by rw [List.getElem?_map, List.getElem?_eq_getElem hi]; rfl
    rw [← ht, List.getElem?_take, if_pos (by omega)] at e
    simp only [World.cell?, hg]
    simpa using e
/-- numbers up to a brace, at most k -/
def rdP : Nat → List UInt8 → List Int → List Int × List UInt8
  | 0, q, a => (a, q)
  | _ + 1, [], a => (a, [])
  | k + 1, b :: q, a => if b = 125 then (a, b :: q) else rdP k (takeT (rdN 3 (b :: q) 0).2 [32]) (a ++ [(rdN 3 (b :: q) 0).1])
theorem takeT_length (l q : List UInt8) : (takeT l q).length ≤ l.length := by
  unfold takeT
  split
  · rw [List.length_drop]; omega
  · exact Nat.le_refl _
theorem rdN_facts : ∀ (k : Nat) (l : List UInt8) (n : Int), 0 ≤ n → n < 10 ^ (3 - k) → k ≤ 3 → (rdN k l n).2.length ≤ l.length ∧ 0 ≤ (rdN k l n).1 ∧ (rdN k l n).1 < 1000
  | 0, l, n, h1, h2, _ => ⟨Nat.le_refl _, h1, by simpa [rdN] using h2⟩
  | k + 1, [], n, h1, h2, h3 => ⟨Nat.le_refl _, h1, by
      have : (10 : Int) ^ (3 - (k + 1)) ≤ 1000 := by rcases (show k = 0 ∨ k = 1 ∨ k = 2 by omega) with h | h | h <;> subst h <;> decide
      simp only [rdN]; omega⟩
  | k + 1, b :: l, n, h1, h2, h3 => by
      have hp : (10 : Int) ^ (3 - (k + 1)) ≤ 1000 := by rcases (show k = 0 ∨ k = 1 ∨ k = 2 by omega) with h | h | h <;> subst h <;> decide
      have hq : (10 : Int) ^ (3 - k) = 10 * 10 ^ (3 - (k + 1)) := by rcases (show k = 0 ∨ k = 1 ∨ k = 2 by omega) with h | h | h <;> subst h <;> decide
      rw [rdN]
      split
      · next hd =>
        have := rdN_facts k l (10 * n + ((b.toNat : Int) - 48)) (by omega) (by omega) (by omega)
        exact ⟨by simp; omega, this.2⟩
      · exact ⟨Nat.le_refl _, h1, by show n < 1000; omega⟩
theorem rdN3 (l : List UInt8) : (rdN 3 l 0).2.length ≤ l.length ∧ 0 ≤ (rdN 3 l 0).1 ∧ (rdN 3 l 0).1 < 1000 := rdN_facts 3 l 0 (by decide) (by decide) (by decide)
theorem ints_one (w : World) (m : Int) (h : 0 ≤ m ∧ m < 1000) : Ints (w.alloc (.cells #[.int .i64 m] 3)) (some ⟨w.heap.size, 0, none⟩) [m] := by
  refine ⟨by simp, fun x hx => ?_, fun _ => ⟨w.heap.size, 0, rfl, by simp, fun i hi => ?_⟩⟩
  · obtain rfl := List.mem_singleton.1 hx; omega
  · obtain rfl : i = 0 := by simpa using hi
    simp [World.cell?_alloc_new]
theorem owns_belowX {w w' : World} {base size n : Nat} {e : TypeId} {v : Value} {xs : List Value} (h : w.ownsRow base e size v n xs) (k : Below w.heap.size w w') : w'.ownsRow base e size v n xs := by
  obtain ⟨h1, h2⟩ := h
  rcases h2 with h0 | ⟨g, cap, cur, hv, hb, hg, r⟩
  · exact ⟨h1, .inl h0⟩
  · exact ⟨h1, .inr ⟨g, cap, cur, hv, hb, (k.block g (Array.getElem?_eq_some_iff.1 hg).1).trans hg, r⟩⟩
def lenOf : Value → Nat
  | .slice _ n _ => n
  | _ => 0
def partsL (s : List UInt8) : List Int := (rdP 65 (takeT s [123]) []).1
def partsT (s : List UInt8) : List UInt8 := takeT (rdP 65 (takeT s [123]) []).2 [125]
set_option maxRecDepth 100000 in
set_option maxHeartbeats 8000000 in
theorem parts_any (s : List UInt8) (h1 : s.length ≤ 1000000) (w : World) : Calls Tryz.prog 20 #[.string (st s)] w fun e w' => (∃ A c, e = .returned (.tuple #[.slice A (partsL s).length c, .string (st (partsT s))]) ∧ Ints w' A (partsL s) ∧ (∀ b o, A = some ⟨b, o, none⟩ → w.heap.size ≤ b) ∧ (∀ x ∈ partsL s, 0 ≤ x ∧ x < 1000) ∧ (partsT s).length ≤ s.length) ∧ Below w.heap.size w w' := by
  have TK := Lib.hid (fun l q (a : l.length ≤ 1000000) (b : q.length ≤ 1000) w1 => take_any l q a b w1)
  have hs1 := takeT_length s [123]
  obtain ⟨q0, hq0⟩ : ∃ q, takeT s [123] = q := ⟨_, rfl⟩
  have HQ0 := Lib.hid hq0
  obtain ⟨R, hR⟩ : ∃ R, rdP 65 q0 [] = R := ⟨_, rfl⟩
  have HR := Lib.hid hR
  have PL := Lib.hid (show partsL s = R.1 from by unfold partsL; rw [hq0, hR])
  have PT := Lib.hid (show partsT s = takeT R.2 [125] from by unfold partsT; rw [hq0, hR])
  have HS := Lib.hid (show q0.length ≤ s.length from by rw [← hq0]; exact hs1)
  have HH := Lib.hid h1
  clear hs1 hq0 hR h1
  go_enter Tryz.func20, Tryz.ntmps20
  go_wp2_with (go_at_call 21; refine (TK.out s [123] HH.out (by decide) _).mono ?_; rw [HQ0.out]; rintro e w1 ⟨rfl, hw⟩; have hw := hw.symm; subst hw)
  go_loopw [0, 4, 5] (fun t v _ wr => ∃ (k : Nat) (q : List UInt8) (a : List Int), k ≤ 65 ∧ a.length + k = 65 ∧ t = .string (st q) ∧ wr.ownsRow w.heap.size 3 1 v a.length (a.map (Value.int .i64)) ∧ (∀ x ∈ a, 0 ≤ x ∧ x < 1000) ∧ q.length ≤ s.length ∧ rdP k q a = R ∧ Below w.heap.size w wr) (fun _ v _ _ => 65 - lenOf v)
  case atStart => exact ⟨65, q0, [], Nat.le_refl _, rfl, rfl, World.ownsRow_nil _ _ _ _, (fun x hx => by cases hx), HS.out, HR.out, Below.refl _ _⟩
  case round =>
    obtain ⟨k, q, a, hk, hak, rfl, hown, hax, hq, hr, hbw⟩ := hrel
    obtain ⟨w2, rfl⟩ : ∃ x, x = wr := ⟨_, rfl⟩
    have hint : ∀ x ∈ a, -9223372036854775808 ≤ x ∧ x ≤ 9223372036854775807 := fun x hx => by have := hax x hx; omega
    have OW := Lib.hid hown
    obtain ⟨G, cap, rfl, hi, hgb⟩ := ints_of_owns hown (by omega) hint
    have GB := Lib.hid hgb
    have II := Lib.hid hi
    have AX := Lib.hid hax
    have BW := Lib.hid hbw
    have RR := Lib.hid hr
    have QQ := Lib.hid hq
    have AK := Lib.hid hak
    have hqs := st_size q
    clear hint hown hi hgb hax hbw hr hq hk
    cases k with
    | zero =>
      have ER := Lib.hid (show R = (a, q) from RR.out.symm)
      have z1 : ¬ (a.length : Int) ≤ 64 := by have := AK.out; omega
      have z0 := Nat.zero_le 0
      clear hak
      by_cases hq0 : q.length = 0
      · have z2 : ¬ (0 : Int) < ((st q).size : Int) := by rw [hqs]; omega
        clear hqs hq0
        have T5 := Lib.hid (fun w1 => TK.out q [125] (by have := QQ.out; have := HH.out; omega) (by decide) w1)
        go_wp2_with (go_at_call 21; refine (T5.out _).mono ?_; rintro e w5 ⟨rfl, hw⟩; have hw := hw.symm; subst hw; clear T5)
        refine bodyPost_ret (v := .tuple #[.slice G a.length cap, .string (st (takeT q [125]))]) (by simp [results, Tryz.results20, go_sem]) rfl ?_
        have tl := takeT_length q [125]
        refine ⟨⟨G, cap, by rw [PL.out, PT.out, ER.out], by rw [PL.out, ER.out]; exact II.out, GB.out, by rw [PL.out, ER.out]; exact AX.out, by rw [PT.out, ER.out]; show (takeT q [125]).length ≤ _; have := QQ.out; omega⟩, BW.out⟩
      · obtain ⟨b, q', rfl⟩ : ∃ b q', q = b :: q' := by cases q with | nil => exact absurd rfl hq0 | cons b q' => exact ⟨b, q', rfl⟩
        have z2 : (0 : Int) < ((st (b :: q')).size : Int) := by rw [hqs]; simp
        have hb0 : ∀ h, (st (b :: q'))[0]'h = b := fun h => rfl
        clear hqs hq0
        by_cases hb : (b.toNat : Int) = 125
        · have T5 := Lib.hid (fun w1 => TK.out (b :: q') [125] (by have := QQ.out; have := HH.out; omega) (by decide) w1)
          go_wp2_with (go_at_call 21; refine (T5.out _).mono ?_; rintro e w5 ⟨rfl, hw⟩; have hw := hw.symm; subst hw; clear T5)
          refine bodyPost_ret (v := .tuple #[.slice G a.length cap, .string (st (takeT (b :: q') [125]))]) (by simp [results, Tryz.results20, go_sem]) rfl ?_
          have tl := takeT_length (b :: q') [125]
          refine ⟨⟨G, cap, by rw [PL.out, PT.out, ER.out], by rw [PL.out, ER.out]; exact II.out, GB.out, by rw [PL.out, ER.out]; exact AX.out, by rw [PT.out, ER.out]; show (takeT (b :: q') [125]).length ≤ _; have := QQ.out; omega⟩, BW.out⟩
        · have T5 := Lib.hid (fun w1 => TK.out (b :: q') [125] (by have := QQ.out; have := HH.out; omega) (by decide) w1)
          go_wp2_with (go_at_call 21; refine (T5.out _).mono ?_; rintro e w5 ⟨rfl, hw⟩; have hw := hw.symm; subst hw; clear T5)
          refine bodyPost_ret (v := .tuple #[.slice G a.length cap, .string (st (takeT (b :: q') [125]))]) (by simp [results, Tryz.results20, go_sem]) rfl ?_
          have tl := takeT_length (b :: q') [125]
          refine ⟨⟨G, cap, by rw [PL.out, PT.out, ER.out], by rw [PL.out, ER.out]; exact II.out, GB.out, by rw [PL.out, ER.out]; exact AX.out, by rw [PT.out, ER.out]; show (takeT (b :: q') [125]).length ≤ _; have := QQ.out; omega⟩, BW.out⟩
    | succ k =>
      have z1 : (a.length : Int) ≤ 64 := by have := AK.out; omega
      clear hak
      cases q with
      | nil =>
        have ER := Lib.hid (show R = (a, []) from RR.out.symm)
        have z2 : ¬ (0 : Int) < ((st ([] : List UInt8)).size : Int) := by rw [hqs]; simp
        clear hqs
        have T5 := Lib.hid (fun w1 => TK.out [] [125] (by have := QQ.out; have := HH.out; omega) (by decide) w1)
        go_wp2_with (go_at_call 21; refine (T5.out _).mono ?_; rintro e w5 ⟨rfl, hw⟩; have hw := hw.symm; subst hw; clear T5)
        refine bodyPost_ret (v := .tuple #[.slice G a.length cap, .string (st (takeT [] [125]))]) (by simp [results, Tryz.results20, go_sem]) rfl ?_
        have tl := takeT_length [] [125]
        refine ⟨⟨G, cap, by rw [PL.out, PT.out, ER.out], by rw [PL.out, ER.out]; exact II.out, GB.out, by rw [PL.out, ER.out]; exact AX.out, by rw [PT.out, ER.out]; show (takeT [] [125]).length ≤ _; have := QQ.out; omega⟩, BW.out⟩
      | cons b q' =>
        have z2 : (0 : Int) < ((st (b :: q')).size : Int) := by rw [hqs]; simp
        have hb0 : ∀ h, (st (b :: q'))[0]'h = b := fun h => rfl
        clear hqs
        by_cases hb : b = 125
        · have ER := Lib.hid (show R = (a, b :: q') from by rw [← RR.out, rdP, if_pos hb])
          have hb2 : (b.toNat : Int) = 125 := by rw [hb]; rfl
          clear hb
          have T5 := Lib.hid (fun w1 => TK.out (b :: q') [125] (by have := QQ.out; have := HH.out; omega) (by decide) w1)
          go_wp2_with (go_at_call 21; refine (T5.out _).mono ?_; rintro e w5 ⟨rfl, hw⟩; have hw := hw.symm; subst hw; clear T5)
          refine bodyPost_ret (v := .tuple #[.slice G a.length cap, .string (st (takeT (b :: q') [125]))]) (by simp [results, Tryz.results20, go_sem]) rfl ?_
          have tl := takeT_length (b :: q') [125]
          refine ⟨⟨G, cap, by rw [PL.out, PT.out, ER.out], by rw [PL.out, ER.out]; exact II.out, GB.out, by rw [PL.out, ER.out]; exact AX.out, by rw [PT.out, ER.out]; show (takeT (b :: q') [125]).length ≤ _; have := QQ.out; omega⟩, BW.out⟩
        · have hb2 : ¬ (b.toNat : Int) = 125 := fun h => hb (by
            apply UInt8.toNat_inj.1
            have : b.toNat = 125 := by omega
            rw [this]; rfl)
          have RS := Lib.hid (show rdP k (takeT (rdN 3 (b :: q') 0).2 [32]) (a ++ [(rdN 3 (b :: q') 0).1]) = R from by rw [← RR.out, rdP, if_neg hb])
          have r3 := rdN3 (b :: q')
          have NM := Lib.hid (fun w1 => number_any (b :: q') (by have := QQ.out; have := HH.out; omega) w1)
          obtain ⟨N, hN⟩ : ∃ N, rdN 3 (b :: q') 0 = N := ⟨_, rfl⟩
          rw [hN] at NM RS r3
          obtain ⟨m, q2⟩ := N
          have r31 : q2.length ≤ (b :: q').length := r3.1
          have R3 := Lib.hid (show q2.length ≤ (b :: q').length ∧ (0 ≤ m ∧ m < 1000) from r3)
          have tl := takeT_length q2 [32]
          have TL := Lib.hid (show (takeT q2 [32]).length ≤ s.length from by have := QQ.out; omega)
          have T2 := Lib.hid (fun w1 => TK.out q2 [32] (by have := QQ.out; have := HH.out; omega) (by decide) w1)
          clear hb hN r3 tl r31
          go_wp2_with (first | (go_at_call 22; refine (NM.out _).mono ?_; rintro e w3 ⟨rfl, hb⟩; have B23 := Lib.hid hb; have B3 := Lib.hid (BW.out.trans (hb.mono BW.out.size)); have OW3 := Lib.hid (owns_belowX OW.out hb); have II3 := Lib.hid (II.out.over hb); clear hb NM) | (go_at_call 21; refine (T2.out _).mono ?_; rintro e w5 ⟨rfl, hw⟩; have hw := hw.symm; subst hw; clear T2) | (at_builtin; refine wpList_append_ints rfl _ _ rfl w.heap.size _ a (by go_simp) (OW3.out.alloc _) (some ⟨w3.heap.size, 0, none⟩) 1 [m] (by go_simp) (ints_one w3 m R3.out.2) (fun h => by cases h) (by have := AK.out; simp; omega) (Nat.le_trans B3.out.size (by simp)) ?_; intro v' w4 ho' hg'; have HO := Lib.hid ho'; have HG := Lib.hid (Below.grown (B3.out.alloc B3.out.size _) hg' (Nat.le_trans B3.out.size (by simp)) (fun j e => (OW3.out.lt j e).1)); clear ho' hg'))
          go_roundw
          case rel =>
            refine ⟨k, takeT q2 [32], a ++ [m], by have := AK.out; omega, by have := AK.out; simp; omega, rfl, HO.out, fun x hx => ?_, TL.out, RS.out, HG.out⟩
            rcases List.mem_append.1 hx with h | h
            · exact AX.out x h
            · obtain rfl := List.mem_singleton.1 h; exact R3.out.2
          case measure =>
            obtain ⟨G', c', e, _, _⟩ := ints_of_owns HO.out (by have := AK.out; simp; omega) (fun x hx => by
              rcases List.mem_append.1 hx with h | h
              · have := AX.out x h; omega
              · obtain rfl := List.mem_singleton.1 h; have := R3.out.2; omega)
            rw [e]
            show 65 - (a ++ [m]).length < 65 - a.length
            have := AK.out
            simp
            omega
end Go.Proofs.YtcbjkclajkjicaaGreatDoor

/-
  Reading back, plainly: the document's.
-/
namespace Go.Proofs.YtcbjkclajkjicaaGreatDoor
set_option linter.unusedSimpArgs false
set_option linter.unusedVariables false
open Go Go.RowKit Go.Lib Go.Ev

def bytesI (xs : List Int) : List UInt8 := xs.map fun n => UInt8.ofNat n.toNat
theorem st_bytes (xs : List Int) : st (bytesI xs) = strOfNums xs := rfl
/-- a number's digits, as bytes -/
def db (n : Nat) : List UInt8 := bytesI (digX n)
/-- what doesn't begin with a digit -/
def NoDig (l : List UInt8) : Prop := ∀ b q, l = b :: q → ¬ (48 ≤ b.toNat ∧ b.toNat ≤ 57)
theorem rdN_stop {k : Nat} {l : List UInt8} (h : NoDig l) (n : Int) : rdN k l n = (n, l) := by
  cases k with
  | zero => rfl
  | succ k =>
    cases l with
    | nil => rfl
    | cons b q => rw [rdN, if_neg (h b q rfl)]
theorem digit_byte {d : Nat} (h : d < 10) : (UInt8.ofNat ((48 : Int) + (d : Int)).toNat).toNat = 48 + d := by
  rw [show ((48 : Int) + (d : Int)).toNat = 48 + d by omega, UInt8.toNat_ofNat']
  omega
theorem rdN_digit {k d : Nat} (h : d < 10) (l : List UInt8) (n : Int) : rdN (k + 1) (UInt8.ofNat ((48 : Int) + (d : Int)).toNat :: l) n = rdN k l (10 * n + d) := by
  rw [rdN, digit_byte h, if_pos ⟨by omega, by omega⟩]
  congr 1
  omega
theorem rdN_db {n : Nat} (h : n < 100) {l : List UInt8} (hl : NoDig l) : rdN 3 (db n ++ l) 0 = ((n : Int), l) := by
  unfold db digX bytesI
  by_cases h10 : n < 10
  · rw [if_pos h10]
    show rdN 3 (UInt8.ofNat ((48 : Int) + (n : Int)).toNat :: l) 0 = _
    rw [rdN_digit h10, rdN_stop hl]
    simp
  · rw [if_neg h10]
    show rdN 3 (UInt8.ofNat ((48 : Int) + ((n / 10 : Nat) : Int)).toNat :: UInt8.ofNat ((48 : Int) + ((n % 10 : Nat) : Int)).toNat :: l) 0 = _
    rw [rdN_digit (by omega), rdN_digit (by omega), rdN_stop hl]
    congr 1
    omega
theorem db_head {n : Nat} (h : n < 100) (l : List UInt8) : ∃ b q, db n ++ l = b :: q ∧ 48 ≤ b.toNat ∧ b.toNat ≤ 57 := by
  unfold db digX bytesI
  by_cases h10 : n < 10
  · rw [if_pos h10]
    exact ⟨_, _, rfl, by rw [digit_byte h10]; omega, by rw [digit_byte h10]; omega⟩
  · rw [if_neg h10]
    exact ⟨_, _, rfl, by rw [digit_byte (by omega)]; omega, by rw [digit_byte (by omega)]; omega⟩
/-- numbers, a space ahead of each -/
def tailB : List Int → List UInt8
  | [] => []
  | x :: xs => 32 :: (db x.toNat ++ tailB xs)
def joinB : List Int → List UInt8
  | [] => []
  | x :: xs => db x.toNat ++ tailB xs
def listB (l : List Int) : List UInt8 := 123 :: (joinB l ++ [125])
theorem noDig_tail (xs : List Int) (rest : List UInt8) : NoDig (tailB xs ++ 125 :: rest) := by
  intro b q h
  cases xs with
  | nil =>
    have e : b = 125 := by injection h with h1 _; exact h1.symm
    rw [e]; decide
  | cons x xs =>
    have e : b = 32 := by injection h with h1 _; exact h1.symm
    rw [e]; decide
theorem take_hit (b : UInt8) (q : List UInt8) : takeT (b :: q) [b] = q := by simp [takeT]
theorem take_space (xs : List Int) (rest : List UInt8) : takeT (tailB xs ++ 125 :: rest) [32] = joinB xs ++ 125 :: rest := by
  cases xs with
  | nil => rfl
  | cons x xs =>
    show takeT (32 :: ((db x.toNat ++ tailB xs) ++ 125 :: rest)) [32] = _
    rw [take_hit]
    simp [joinB]
theorem rdP_join : ∀ (l : List Int) (k : Nat) (rest : List UInt8) (a : List Int), l.length ≤ k → (∀ x ∈ l, 0 ≤ x ∧ x < 100) → rdP k (joinB l ++ 125 :: rest) a = (a ++ l, 125 :: rest)
  | [], 0, rest, a, _, _ => by simp [rdP, joinB]
  | [], k + 1, rest, a, _, _ => by
    show rdP (k + 1) (125 :: rest) a = _
    rw [rdP, if_pos rfl, List.append_nil]
  | x :: xs, 0, rest, a, h, _ => by simp at h
  | x :: xs, k + 1, rest, a, h, hx => by
    have hx0 := hx x List.mem_cons_self
    have e : joinB (x :: xs) ++ 125 :: rest = db x.toNat ++ (tailB xs ++ 125 :: rest) := by simp [joinB]
    obtain ⟨b, q, hb, h1, h2⟩ := db_head (n := x.toNat) (by omega) (tailB xs ++ 125 :: rest)
    rw [e, hb, rdP, if_neg (fun h => by rw [h] at h2; exact absurd h2 (by decide)), ← hb, rdN_db (by omega) (noDig_tail xs rest)]
    dsimp only
    rw [take_space, rdP_join xs k rest _ (by simp at h; omega) (fun y hy => hx y (List.mem_cons_of_mem _ hy)), Int.toNat_of_nonneg hx0.1]
    simp
theorem parts_back {l : List Int} (h : l.length ≤ 65) (hx : ∀ x ∈ l, 0 ≤ x ∧ x < 100) (rest : List UInt8) : partsL (listB l ++ rest) = l ∧ partsT (listB l ++ rest) = rest := by
  have e : takeT (listB l ++ rest) [123] = joinB l ++ 125 :: rest := by
    show takeT (123 :: ((joinB l ++ [125]) ++ rest)) [123] = _
    rw [take_hit]
    simp
  unfold partsL partsT
  rw [e, rdP_join l 65 rest [] h hx]
  exact ⟨by simp, take_hit 125 rest⟩
theorem tail_snoc (xs : List Int) (x : Int) : tailB (xs ++ [x]) = tailB xs ++ 32 :: db x.toNat := by
  induction xs with
  | nil => simp [tailB]
  | cons y ys ih => simp [tailB, ih]
theorem bytes_append (xs ys : List Int) : bytesI (xs ++ ys) = bytesI xs ++ bytesI ys := by unfold bytesI; rw [List.map_append]
theorem text_take (l : List Int) : ∀ k, k ≤ l.length → bytesI (textK l k) = 123 :: joinB (l.take k)
  | 0, _ => rfl
  | k + 1, h => by
    rw [textK_succ, bytes_append, text_take l k (by omega), bytes_append, List.take_succ_eq_append_getElem (by omega), List.getD_eq_getElem?_getD, List.getElem?_eq_getElem (by omega)]
    show (123 :: joinB (l.take k)) ++ (bytesI (if k = 0 then [] else [32]) ++ db (l[k]).toNat) = 123 :: joinB (l.take k ++ [l[k]])
    cases k with
    | zero => simp [bytesI, joinB, tailB]
    | succ j =>
      obtain ⟨y, ys, e⟩ : ∃ y ys, l.take (j + 1) = y :: ys := by
        cases hl : l.take (j + 1) with
        | nil =>
          have h0 : (l.take (j + 1)).length = 0 := by rw [hl]; rfl
          rw [List.length_take] at h0; omega
        | cons y ys => exact ⟨y, ys, rfl⟩
      rw [e, if_neg (by omega)]
      simp only [joinB, List.cons_append]
      rw [tail_snoc]
      simp [bytesI]
theorem list_text (l : List Int) : bytesI (listT l) = listB l := by
  unfold listT listB
  rw [bytes_append, text_take l l.length (Nat.le_refl _), List.take_length]
  rfl
end Go.Proofs.YtcbjkclajkjicaaGreatDoor

/-
  Reading a family's text: the document's.
-/
namespace Go.Proofs.YtcbjkclajkjicaaGreatDoor
set_option linter.unusedSimpArgs false
set_option linter.unusedVariables false
open Go Go.RowKit Go.Lib Go.Ev

def dots : List UInt8 := [32, 46, 46, 32]
def hash : List UInt8 := [32, 35, 32]
/-- what the document reads -/
def rd1 (s : List UInt8) : List UInt8 := takeT (partsT s) dots
def rd2 (s : List UInt8) : List UInt8 := takeT (partsT (rd1 s)) hash
def rd3 (s : List UInt8) : List UInt8 := takeT (rdN 3 (rd2 s) 0).2 dots
def readLo (s : List UInt8) : List Int := partsL s
def readHi (s : List UInt8) : List Int := partsL (rd1 s)
def readMn (s : List UInt8) : Int := (rdN 3 (rd2 s) 0).1
def readMx (s : List UInt8) : Int := (rdN 3 (rd3 s) 0).1
theorem take_app (q r : List UInt8) : takeT (q ++ r) q = r := by
  unfold takeT
  rw [List.take_left' rfl, if_pos rfl, List.drop_left' rfl]
/-- a family's text -/
def famT (lo hi : List Int) (mn mx : Nat) : List UInt8 := listB lo ++ (dots ++ (listB hi ++ (hash ++ (db mn ++ (dots ++ db mx)))))
theorem read_back {lo hi : List Int} {mn mx : Nat} (h1 : lo.length ≤ 65) (h2 : hi.length ≤ 65) (x1 : ∀ x ∈ lo, 0 ≤ x ∧ x < 100) (x2 : ∀ x ∈ hi, 0 ≤ x ∧ x < 100) (m1 : mn < 100) (m2 : mx < 100) :
    readLo (famT lo hi mn mx) = lo ∧ readHi (famT lo hi mn mx) = hi ∧ readMn (famT lo hi mn mx) = mn ∧ readMx (famT lo hi mn mx) = mx := by
  have e1 : rd1 (famT lo hi mn mx) = listB hi ++ (hash ++ (db mn ++ (dots ++ db mx))) := by
    unfold rd1 famT
    rw [(parts_back h1 x1 _).2, take_app]
  have e2 : rd2 (famT lo hi mn mx) = db mn ++ (dots ++ db mx) := by
    unfold rd2
    rw [e1, (parts_back h2 x2 _).2, take_app]
  have n1 : NoDig (dots ++ db mx) := fun b q h => by
    have : b = 32 := by injection h with h _; exact h.symm
    rw [this]; decide
  have n2 : NoDig [] := fun b q h => by cases h
  have e3 : rd3 (famT lo hi mn mx) = db mx := by
    unfold rd3
    rw [e2, rdN_db m1 n1]
    exact take_app _ _
  refine ⟨?_, ?_, ?_, ?_⟩
  · unfold readLo famT; exact (parts_back h1 x1 _).1
  · unfold readHi; rw [e1]; exact (parts_back h2 x2 _).1
  · unfold readMn; rw [e2, rdN_db m1 n1]
  · unfold readMx
    have := rdN_db m2 n2
    rw [List.append_nil] at this
    rw [e3, this]
theorem rd_lengths (s : List UInt8) (hp : ∀ q : List UInt8, q.length ≤ s.length → (partsT q).length ≤ q.length) : (rd1 s).length ≤ s.length ∧ (rd2 s).length ≤ s.length ∧ (rd3 s).length ≤ s.length := by
  have a1 : (rd1 s).length ≤ s.length := Nat.le_trans (takeT_length _ _) (hp s (Nat.le_refl _))
  have a2 : (rd2 s).length ≤ s.length := Nat.le_trans (takeT_length _ _) (Nat.le_trans (hp _ a1) a1)
  exact ⟨a1, a2, Nat.le_trans (takeT_length _ _) (Nat.le_trans (rdN3 _).1 a2)⟩
theorem rdP_length : ∀ (k : Nat) (q : List UInt8) (a : List Int), (rdP k q a).2.length ≤ q.length
  | 0, q, a => Nat.le_refl _
  | k + 1, [], a => Nat.le_refl _
  | k + 1, b :: q, a => by
    rw [rdP]
    split
    · exact Nat.le_refl _
    · exact Nat.le_trans (rdP_length k _ _) (Nat.le_trans (takeT_length _ _) (rdN3 (b :: q)).1)
theorem partsT_length (s : List UInt8) : (partsT s).length ≤ s.length := Nat.le_trans (takeT_length _ _) (Nat.le_trans (rdP_length _ _ _) (takeT_length _ _))
theorem bytes_eq {a b : ByteArray} (h : a.data.toList = b.data.toList) : a = b := by
  apply ByteArray.ext
  exact Array.toList_inj.1 h
theorem results_row_tmpX {P : Program} {fn : Func} {p u : Tmp} {ty : TypeId} (h : fn.results = #[.cell p ty, .tmp u]) (tmps : Array Value) (w : World) (g : Nat) (t : TypeId) (cs : Array Value) (fr : Nat × Nat) (d : TypeDesc)
    (hp : tmps.getD p undef = .pointer (some ⟨g, 0, none⟩)) (hg : w.heap[g]? = some (.cells cs t fr))
    (hu : P.underlying ty = some d) (hd : (match d with | .struct _ | .array _ _ => true | _ => false) = true) (hi : (P.info? ty).map (·.size) = some cs.size) :
    (results fn tmps).run P w = .ok (.tuple #[.agg cs, tmps.getD u undef]) w := by
  rw [results_cell_tmp h, hp]
  simp [asAddr, run_loadVar_row w g t ty cs fr d hg hu hd hi]
/-- only one block changes -/
def OnlyX (g : Nat) (w w' : World) : Prop := Below g w w' ∧ ∀ k, k ≠ g → w'.heap[k]? = w.heap[k]?
theorem OnlyX.set {g : Nat} (w : World) (o : Nat) (v : Value) : OnlyX g w (w.setCell ⟨g, o, none⟩ v) := ⟨(Below.refl _ _).setCell (p := ⟨g, o, none⟩) (Nat.le_refl _) _, fun k hk => Below.heap_setCell _ _ _ k hk⟩
theorem ints_set {w : World} {g o : Nat} {v : Value} {A : Option Addr} {xs : List Int} (h : Ints w A xs) (hA : ∀ b o, A = some ⟨b, o, none⟩ → b ≠ g) : Ints (w.setCell ⟨g, o, none⟩ v) A xs :=
  ⟨h.1, h.2.1, fun hp => by
    obtain ⟨b, off, e, hb, hc⟩ := h.2.2 hp
    refine ⟨b, off, e, by simpa using hb, fun i hi => ?_⟩
    rw [← hc i hi]
    simp only [World.cell?, Below.heap_setCell w ⟨g, o, none⟩ v b (hA b off e)]⟩
/-- four cells of a family -/
def F4 (w : World) (g : Nat) (a b c d : Value) : Prop := w.heap[g]? = some (.cells #[a, b, c, d] 24 (0, 0))
theorem F4.facts {w : World} {g : Nat} {a b c d : Value} (h : F4 w g a b c d) : w.cell? ⟨g, 0, none⟩ = some a ∧ w.cell? ⟨g, 1, none⟩ = some b ∧ w.cell? ⟨g, 2, none⟩ = some c ∧ w.cell? ⟨g, 3, none⟩ = some d ∧ ∀ o, w.frozen? ⟨g, o, none⟩ = false := by
  unfold F4 at h
  refine ⟨?_, ?_, ?_, ?_, fun o => by simp [World.frozen?, h]⟩ <;> (simp only [World.cell?, h]; rfl)
theorem F4.over {w w' : World} {g : Nat} {a b c d : Value} (h : F4 w g a b c d) (k : Below w.heap.size w w') : F4 w' g a b c d := (k.block g (Array.getElem?_eq_some_iff.1 h).1).trans h
theorem F4.lt {w : World} {g : Nat} {a b c d : Value} (h : F4 w g a b c d) : g < w.heap.size := (Array.getElem?_eq_some_iff.1 h).1
theorem F4.set0 {w : World} {g : Nat} {a b c d : Value} (h : F4 w g a b c d) (v : Value) : F4 (w.setCell ⟨g, 0, none⟩ v) g v b c d := heap_setCell_same _ g 0 _ _ v h
theorem F4.set1 {w : World} {g : Nat} {a b c d : Value} (h : F4 w g a b c d) (v : Value) : F4 (w.setCell ⟨g, 1, none⟩ v) g a v c d := heap_setCell_same _ g 1 _ _ v h
theorem F4.set2 {w : World} {g : Nat} {a b c d : Value} (h : F4 w g a b c d) (v : Value) : F4 (w.setCell ⟨g, 2, none⟩ v) g a b v d := heap_setCell_same _ g 2 _ _ v h
theorem F4.set3 {w : World} {g : Nat} {a b c d : Value} (h : F4 w g a b c d) (v : Value) : F4 (w.setCell ⟨g, 3, none⟩ v) g a b c v := heap_setCell_same _ g 3 _ _ v h
end Go.Proofs.YtcbjkclajkjicaaGreatDoor
