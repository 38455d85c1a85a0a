/-
  The document's ranges of a set.
-/
import Derived.Test.YtlhfbhkfmkcnjaaDoorDsQ
namespace Go.Proofs.YtlhfbhkfmkcnjaaDoor
open Go Go.RowKit Go.Shelf Go.Ev

def upTo (p : Nat → Bool) (k : Nat) : List (Nat × Nat) := addTo ((List.range k).filter p)
theorem upTo_no {p : Nat → Bool} {k : Nat} (h : p k = false) : upTo p (k + 1) = upTo p k := by
  unfold upTo
  rw [List.range_succ, List.filter_append]
  simp [h]
theorem upTo_yes {p : Nat → Bool} {k : Nat} (h : p k = true) : upTo p (k + 1) = addNum (upTo p k) k := by
  unfold upTo
  rw [List.range_succ, List.filter_append, ← addTo_snoc]
  simp [h]
theorem upTo_len (p : Nat → Bool) (k : Nat) : (upTo p k).length ≤ k := by
  have h1 := addTo_len ((List.range k).filter p)
  have h2 := List.length_filter_le p (List.range k)
  rw [List.length_range] at h2
  exact Nat.le_trans h1 h2
theorem boolArr_cells (p : Nat → Bool) : (Value.agg (boolArr p)).cells = boolArr p := rfl
set_option maxRecDepth 100000 in
set_option maxHeartbeats 4000000 in
theorem From_any (p : Nat → Bool) (w : World) :
    Calls Tryd.prog 52 #[.agg (boolArr p)] w fun e w' => ∃ v, e = .returned v ∧ w'.ownsRow w.heap.size 60 2 v (upTo p 1001).length (pairCells (upTo p 1001).reverse) ∧ (v = .slice none 0 0 ↔ upTo p 1001 = []) ∧ Below w.heap.size w w' := by
  obtain ⟨i0, hi, hz0, hz1, hz2⟩ := info_parts infoP
  go_enter Tryd.func52, Tryd.ntmps52
  go_wp2_with fail
  go_loopw [3, 4] (fun o i wr => ∃ (k : Nat), k ≤ 1001 ∧ i = .int .i64 k ∧ wr.ownsRow (w.heap.size + 1) 60 2 o (upTo p k).length (pairCells (upTo p k).reverse) ∧ (o = .slice none 0 0 ↔ upTo p k = []) ∧ SetAt wr w.heap.size p ∧ Below w.heap.size w wr) (fun _ i _ => 1001 - (intOf i).toNat)
  case atStart =>
    refine ⟨0, by omega, rfl, World.ownsRow_nil _ _ _ _, by simp [upTo, addTo], alloc_new _ _, (Below.refl _ w).alloc (Nat.le_refl _) _⟩
  case round =>
    obtain ⟨k, hk, rfl, hrow, hnil, hs, hb⟩ := hrel
    by_cases hlt : k < 1001
    · have x0 := hs.cell hlt
      have z1 : (k : Int) ≤ 1000 := by omega
      have z2 : (0 : Int) ≤ (k : Int) := by omega
      have z3 : (k : Int) < 1001 := by omega
      have hsl := hs.lt
      cases hp : p k with
      | false =>
        rw [hp] at x0
        have HH := Lib.hid (And.intro hrow (And.intro hnil (And.intro hs hb)))
        have UN := Lib.hid (upTo_no hp)
        clear hrow hnil hs hb hp
        go_wp2_with fail
        go_roundw
        case rel =>
          obtain ⟨hrow, hnil, hs, hb⟩ := HH.out
          exact ⟨k + 1, by omega, by go_num, by rw [UN.out]; exact hrow, by rw [UN.out]; exact hnil, hs, hb⟩
        case measure => simp [intOf]; omega
      | true =>
        rw [hp] at x0
        have hln := upTo_len p k
        have uy := upTo_yes hp
        obtain ⟨Q, hQ⟩ : ∃ Q, upTo p k = Q := ⟨_, rfl⟩
        rw [hQ] at hrow hnil hln uy
        have UY := Lib.hid uy
        have HSB := Lib.hid (And.intro hs hb)
        clear hs hb hp hQ uy
        cases Q with
        | nil =>
          obtain rfl := hnil.2 rfl
          have HO := Lib.hid hrow
          clear hrow hnil hln
          go_wp2_with (at_builtin; refine wpList_append_own _ rfl _ _ 22 rfl (w.heap.size + 1) 60 i0 (.agg #[.int .i64 0, .int .i64 0]) 2 16 Tryd.underlying22 hi hz0 hz1 hz2 rfl (by decide) _ _ _ rfl (HO.out.alloc _) ⟨wr.heap.size, 0, none⟩ 1 1 [.int .i64 k, .int .i64 k] rfl rfl ?c1 ?c2 (by simp [maxLen]) (by simp) (by simp; omega) ?_)
          case c1 =>
            intro j z hj
            match j, hj with
            | 0, hj => simp at hj; subst hj; simp [Addr.add]
            | 1, hj => simp at hj; subst hj; simp [Addr.add]
          case c2 => intro z hz; simp at hz; subst hz; rfl
          intro v' w2 hown' hgrow _
          have hb2 : Below (w.heap.size + 1) wr w2 := ((Below.refl _ wr).alloc (by omega) _).grown hgrow (by simp; omega) (fun j hj => (HO.out.lt j hj).1)
          have HB2 := Lib.hid hb2
          have OW := Lib.hid hown'
          clear hown' hgrow hb2
          go_wp2_with fail
          go_roundw
          case rel =>
            obtain ⟨hs, hb⟩ := HSB.out
            exact ⟨k + 1, by omega, by go_num, by rw [UY.out, addNum_nil]; exact OW.out, by rw [UY.out, addNum_nil]; obtain ⟨g', c', e⟩ := ownsRow_succ OW.out; rw [e]; simp, hs.below HB2.out (by omega), hb.trans (HB2.out.mono (by omega))⟩
          case measure => simp [intOf]; omega
        | cons y r =>
          obtain ⟨a, b⟩ := y
          obtain ⟨g, cap, rfl⟩ := ownsRow_succ hrow
          have hcl := cells_at a b r
          have hset := cells_set a b k r
          obtain ⟨hjl, hje⟩ := List.getElem?_eq_some_iff.1 hcl
          obtain ⟨hcc, hff, hbg, hkc⟩ := ownsRow_cell hrow hjl
          rw [hje] at hcc
          have HR2 := Lib.hid (show wr.ownsRow (w.heap.size + 1) 60 2 (.slice (some ⟨g, 0, none⟩) (r.length + 1) cap) (r.length + 1) (pairCells ((a, b) :: r).reverse) from hrow)
          have hlen2 : r.length + 1 ≤ k := hln
          have HS := Lib.hid hset
          have HPL := Lib.hid (show (pairCells ((a, b) :: r).reverse).length = (r.length + 1) * 2 by rw [pairCells_len, List.length_reverse]; rfl)
          clear hrow hset hcl hje hjl hnil hln
          try simp only [List.length_cons] at hkc
          try simp only [List.length_cons] at hcc
          obtain ⟨q, hq'⟩ : ∃ q, r.length = q := ⟨_, rfl⟩
          have hq := Lib.hid hq'
          rw [hq'] at HR2 HS hcc hkc hlen2 HPL
          try simp only [hq']
          clear hq'
          have y1 : (0 : Int) < (q : Int) + 1 := by omega
          have y2 : (q : Int) + 1 - 1 = q := by omega
          have y3 : (0 : Int) ≤ (q : Int) := by omega
          have y4 : (q : Int) < (q : Int) + 1 := by omega
          by_cases hin : b + 1 = k
          · have w1 : ((b : Int) == (k : Int) - 1) = true := by simp; omega
            have HIN := Lib.hid hin
            clear hin
            go_wp2_with fail
            go_roundw
            case rel =>
              obtain ⟨hs, hb⟩ := HSB.out
              have hrw := ownsRow_put HR2.out (q * 2 + 1) (.int .i64 k)
              rw [HS.out] at hrw
              exact ⟨k + 1, by omega, by go_num, by rw [UY.out, addNum_in HIN.out]; simpa [hq.out] using hrw, by rw [UY.out, addNum_in HIN.out]; simp, hs.other (by omega), hb.setCell (p := ⟨g, q * 2 + 1, none⟩) (by show w.heap.size ≤ g; omega) _⟩
            case measure => simp [intOf]; omega
          · have w1 : ((b : Int) == (k : Int) - 1) = false := by simp; omega
            have HIN := Lib.hid hin
            clear hin
            go_wp2_with (at_builtin; refine wpList_append_own _ rfl _ _ 22 rfl (w.heap.size + 1) 60 i0 (.agg #[.int .i64 0, .int .i64 0]) 2 16 Tryd.underlying22 hi hz0 hz1 hz2 rfl (by decide) _ _ _ rfl (HR2.out.alloc _) ⟨wr.heap.size, 0, none⟩ 1 1 [.int .i64 k, .int .i64 k] rfl rfl ?c1 ?c2 ?c3 ?c4 ?c5 ?_)
            case c1 =>
              intro j z hj
              match j, hj with
              | 0, hj => simp at hj; subst hj; simp [Addr.add]
              | 1, hj => simp at hj; subst hj; simp [Addr.add]
            case c2 => intro z hz; simp at hz; subst hz; rfl
            case c3 => unfold maxLen; omega
            case c4 => omega
            case c5 => simp; omega
            intro v' w2 hown' hgrow _
            have hb2 : Below (w.heap.size + 1) wr w2 := ((Below.refl _ wr).alloc (by omega) _).grown hgrow (by simp; omega) (fun j hj => (HR2.out.lt j hj).1)
            have HB2 := Lib.hid hb2
            have OW := Lib.hid hown'
            clear hown' hgrow hb2
            go_wp2_with fail
            go_roundw
            case rel =>
              obtain ⟨hs, hb⟩ := HSB.out
              exact ⟨k + 1, by omega, by go_num, by rw [UY.out, addNum_new HIN.out, cells_last]; simpa [hq.out] using OW.out, by rw [UY.out, addNum_new HIN.out]; obtain ⟨g', c', e⟩ := ownsRow_succ OW.out; rw [e]; simp, hs.below HB2.out (by omega), hb.trans (HB2.out.mono (by omega))⟩
            case measure => simp [intOf]; omega
    · obtain rfl : k = 1001 := by omega
      have HH := Lib.hid (And.intro hrow (And.intro hnil hb))
      clear hrow hnil hb hs
      go_wp2_with fail
      go_ret
      obtain ⟨hrow, hnil, hb⟩ := HH.out
      exact ⟨_, rfl, ownsRow_lower (by omega) hrow, hnil, hb⟩
end Go.Proofs.YtlhfbhkfmkcnjaaDoor
