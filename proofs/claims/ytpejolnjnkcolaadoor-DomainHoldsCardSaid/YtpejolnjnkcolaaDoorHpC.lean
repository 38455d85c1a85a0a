/-
  Whether the values at places are all different: the program's own answer, by a map.
-/
import Derived.Test.YtpejolnjnkcolaaDoorHpA
import Derived.Test.YtpejolnjnkcolaaDoorDmD
import Derived.Test.YtpejolnjnkcolaaDoorDmE
import Derived.Maps.OwnSet
import Derived.Maps.Views
namespace Go.Proofs.YtpejolnjnkcolaaDoor
open Go Go.RowKit Go.Maps Go.WideMaps

theorem wf_i64 {u : Int} (h : -9223372036854775808 ≤ u ∧ u ≤ 9223372036854775807) : (Lit.int .i64 u).wf = true := by
  simp [Lit.wf, IntKind.min, IntKind.max, IntKind.signed, IntKind.bits]
  exact h
/-- the map when k values have come -/
structure SeenAs (D : DataW Unit) (l : List Int) : Prop where
  has : ∀ u : Int, (-9223372036854775808 ≤ u ∧ u ≤ 9223372036854775807) → Maps.has D (.int .i64 u) = decide (u ∈ l)
  le : Maps.size D ≤ l.length
  all : Maps.size D = l.length ↔ l.Nodup
theorem SeenAs.nil : SeenAs (.map []) [] := ⟨fun u _ => by simp [Maps.has], by simp [Maps.size], by simp [Maps.size]⟩
theorem SeenAs.snoc {D : DataW Unit} {l : List Int} (h : SeenAs D l) (ht : Tidy D) (hm : IsMap D) {u : Int} (hu : -9223372036854775808 ≤ u ∧ u ≤ 9223372036854775807) : SeenAs (D.put (.int .i64 u) (.lit (.bool true))) (l ++ [u]) := by
  have hs := size_put (k := .int .i64 u) ht (.lit (.bool true))
  have h1 := h.has u hu
  have h2 := h.le
  have h3 := h.all
  refine ⟨fun v hv => ?_, ?_, ?_⟩
  · by_cases e : v = u
    · subst e
      rw [has_put_same hm (by simp [WideAt.IsKeyLit])]
      simp
    · rw [has_put_other (fun e' => e (by cases e'; rfl)), h.has v hv]
      simp [e]
  · rw [hs]; simp; split <;> omega
  · rw [hs, h1]
    rw [List.nodup_append]
    by_cases hx : u ∈ l
    · simp only [hx, decide_true, if_true, List.length_append, List.length_cons, List.length_nil]
      constructor
      · intro e; omega
      · rintro ⟨_, _, hd⟩
        exact absurd rfl (hd u hx u (by simp))
    · simp only [hx, decide_false, Bool.false_eq_true, if_false, List.length_append, List.length_cons, List.length_nil]
      constructor
      · intro e
        refine ⟨h3.1 (by omega), by simp, fun a ha b hb => ?_⟩
        simp at hb
        subst hb
        exact fun e => hx (e ▸ ha)
      · rintro ⟨hn, _, _⟩
        have := h3.2 hn
        omega

set_option maxRecDepth 100000 in
set_option maxHeartbeats 2000000 in
theorem areDifferent_any (x : ByteArray) (n : Int) (A B D : Option Addr) (vs us : List Int) (lb c1 c2 c3 : Nat) (w : World) (ha : Ints w A vs) (hd : Ints w D us) (hr : ∀ j (hj : j < vs.length), 0 ≤ vs[j] ∧ vs[j] < us.length) (hn : vs.length ≤ 100) :
    Calls Tryd.prog 68 #[.agg #[.string x, .slice A vs.length c1, .slice B lb c2, .int .i64 n], .slice D us.length c3] w fun e w' => e = .returned (.bool (decide (pick vs us).Nodup)) ∧ Below w.heap.size w w' := by
  have cl : (pick vs us).length = vs.length := by simp [pick]
  have rng := pick_range (vs := vs) hd.2.1
  have HA := Lib.hid ha.2.2
  have HD := Lib.hid hd.2.2
  have HR := Lib.hid hr
  have HG := Lib.hid rng
  have HN := Lib.hid (show ∀ k (hk : k < vs.length), (pick vs us).getD k 0 = us.getD (vs[k]).toNat 0 from fun k hk => by simp [pick, nthI, List.getD_eq_getElem?_getD, List.getElem?_eq_getElem hk])
  clear ha hd hr rng
  generalize hl : pick vs us = l at *
  have hmm := @run_makeMap Tryd.prog
  go_enter Tryd.func68, Tryd.ntmps68
  go_wp2_with fail
  go_loopw [7, 12] (fun _ i wr => ∃ (k : Nat) (M : DataW Unit), k ≤ vs.length ∧ i = .int .i64 k ∧ wr.ownsMap Tryd.prog 3 (plainElem (H := Unit) Tryd.prog 4) (w.heap.size + 1) k M ∧ SeenAs M (l.take k) ∧ Below w.heap.size w wr ∧ wr.heap[w.heap.size]? = some (.cells #[.string x, .slice A vs.length c1, .slice B lb c2, .int .i64 n] 37 (0, 0)))
    (fun _ i _ => vs.length - (intOf i).toNat)
  case atStart =>
    refine ⟨0, .map [], Nat.zero_le _, rfl, ?_, by simpa using SeenAs.nil, ((Below.refl _ w).alloc (Nat.le_refl _) _).alloc (by simp) _, (Below.heap_alloc _ _ _ (by simp)).trans (by show (w.heap.push _)[w.heap.size]? = _; simp)⟩
    have := World.ownsMap_made (w.alloc (.cells #[.string x, .slice A vs.length c1, .slice B lb c2, .int .i64 n] 37)) Tryd.prog 3 (plainElem (H := Unit) Tryd.prog 4)
    rwa [World.size_alloc] at this
  case round =>
    obtain ⟨k, M, hk, rfl, hown, hsn, hB0, hx0⟩ := hrel
    have hs0 := lt_of_block hx0
    have d1 : wr.cell? ⟨w.heap.size, 1, none⟩ = some (.slice A vs.length c1) := by simp [World.cell?, hx0]
    by_cases hlt : k < vs.length
    · obtain ⟨b1, o1, rfl, hb1', g1⟩ := HA.out (by omega)
      obtain ⟨v1, v2⟩ := HR.out k hlt
      obtain ⟨b3, o3, rfl, hb3', g3⟩ := HD.out (by omega)
      have x1 := (hB0.cell (p := ⟨b1, o1 + k, none⟩) hb1').trans (g1 k hlt)
      have hnk := HN.out k hlt
      obtain ⟨q, hq⟩ : ∃ q : Nat, vs[k] = q := ⟨vs[k].toNat, by omega⟩
      rw [hq] at x1 v1 v2 hnk
      have x3 := (hB0.cell (p := ⟨b3, o3 + q, none⟩) hb3').trans (g3 q (by omega))
      have hu := HG.out _ (List.getElem_mem (show k < l.length by omega))
      have e1 : us[q]'(by omega) = l[k]'(by omega) := by
        simp only [Int.toNat_natCast, List.getD_eq_getElem?_getD, List.getElem?_eq_getElem (show q < us.length by omega), List.getElem?_eq_getElem (show k < l.length by omega), Option.getD_some] at hnk
        exact hnk.symm
      rw [e1] at x3
      have ht : l.take (k + 1) = l.take k ++ [l[k]'(by omega)] := List.take_succ_eq_append_getElem (by omega)
      have SN := Lib.hid (hsn.snoc (hown.tidy (Maps.int_keyed Tryd.underlying3)) hown.isMap hu)
      rw [← ht] at SN
      generalize l[k]'(by omega) = u at *
      have hkey := Maps.keyOf_int_mk (P := Tryd.prog) (k := 3) Tryd.underlying3 (wf_i64 hu)
      have z1 : (k : Int) < (vs.length : Int) := by omega
      have z2 : (0 : Int) ≤ (k : Int) := by omega
      clear g1 g3 HA HD HR HG HN hq hnk e1 ht hsn
      go_wp2_with (first
        | (at_mapUpdate; refine wpList_mapUpdate_own _ rfl _ _ _ 110 rfl 3 4 (Maps.int_keyed Tryd.underlying3) Tryd.underlying110 (plainElem (H := Unit) Tryd.prog 4) (w.heap.size + 1) k _ rfl hown (by unfold maxLen; omega) _ _ _ rfl rfl hkey _ [] (plainElem_bool Tryd.underlying4 true) ?_; intro w1 hown1 hgrow1))
      have hB1 : Below w.heap.size w w1 := hB0.grown hgrow1 hB0.size (fun j hj => by cases hj; omega)
      have hx1 : w1.heap[w.heap.size]? = some (.cells #[.string x, .slice (some ⟨b1, o1, none⟩) vs.length c1, .slice B lb c2, .int .i64 n] 37 (0, 0)) := (hgrow1.block _ hs0 (by simp)).trans hx0
      clear hx0 d1 x1 x3
      go_wp2_with fail
      go_roundw
      case rel => exact ⟨k + 1, _, by omega, by go_num, hown1, SN.out, hB1, hx1⟩
      case measure => simp [intOf]; omega
    · obtain rfl : k = vs.length := by omega
      rw [List.take_of_length_le (by omega)] at hsn
      have e : ((Maps.size M : Int) == (vs.length : Int)) = decide l.Nodup := by
        rw [Bool.eq_iff_iff, beq_iff_eq, decide_eq_true_iff, ← hsn.all, cl]
        omega
      have EE := Lib.hid e
      have HB := Lib.hid hB0
      clear e HA HD HR HG HN hB0 hx0 hsn
      go_wp2_with (first
        | (at_len; refine wpList_len_own _ rfl _ 110 rfl 3 4 Tryd.underlying110 _ (w.heap.size + 1) vs.length _ rfl hown ?_))
      go_wp2_with fail
      go_ret
      exact ⟨by rw [← EE.out]; rfl, HB.out⟩
end Go.Proofs.YtpejolnjnkcolaaDoor
