/-
  The evaluator is told what a family out of its bounds is.
-/
import Derived.Test.YtcbjkclajkjicaaGreatDoorFrD
namespace Go.Proofs.YtcbjkclajkjicaaGreatDoor
open Go Go.RowKit Go.Shelf Go.Ev

def famS (k0 e : Nat) : CallF := fun k args st => if Nat.beq k k0 then (match args with
  | [.agg ⟨[.int .u64 (.ofNat lo), .int .u64 (.ofNat hi), .int .i64 a, .int .i64 b]⟩] => if (Nat.blt lo 18446744073709551616 && Nat.blt hi 18446744073709551616) && (Nat.blt 0 (bitsOf 64 0 lo).length && Nat.blt 0 (bitsOf 64 0 hi).length) then
      some (.agg ⟨[.slice (some ⟨st.next, 0, none⟩) (bitsOf 64 0 lo).length (bitsOf 64 0 lo).length, .slice (some ⟨st.next + 1, 0, none⟩) (bitsOf 64 0 hi).length (bitsOf 64 0 hi).length, .int .i64 a, .int .i64 b]⟩,
        ⟨(st.heap.put st.next (some (.cells (natCells (bitsOf 64 0 lo)) e true 1))).put (st.next + 1) (some (.cells (natCells (bitsOf 64 0 hi)) e true 1)), st.next + 1 + 1⟩) else none
  | _ => none) else none
theorem natCells_plain (l : List Nat) : (natCells l).all (plainB 3) = true := by
  rw [List.all_eq_true]
  intro v hv
  obtain ⟨x, _, rfl⟩ := List.mem_map.1 hv
  rfl
theorem row_parts {W : World} {base : Nat} {v : Value} {x : Nat} (h : BitRow W base v x) (hp : 0 < (bitsOf 64 0 x).length) : ∃ g cap cur, v = .slice (some ⟨g, 0, none⟩) (bitsOf 64 0 x).length cap ∧ base ≤ g ∧ g < W.heap.size ∧ W.heap[g]? = some (.cells cur 3 (0, 0)) ∧ (bitsOf 64 0 x).length ≤ cap ∧ cur.size = cap * 1 ∧ cur.toList.take ((bitsOf 64 0 x).length * 1) = natCells (bitsOf 64 0 x) := by
  obtain ⟨_, h1, h2⟩ := h
  rcases h2 with ⟨_, h0⟩ | ⟨g, cap, cur, rfl, hb, hg, hc1, _, hs, ht⟩
  · omega
  · exact ⟨g, cap, cur, rfl, hb, (Array.getElem?_eq_some_iff.1 hg).1, hg, hc1, hs, ht⟩
theorem agg_plain {φ : Pm} {x y a b : Value} {v : Value} (hx : plainB 0 x = true) (hy : plainB 0 y = true) (ha : plainB 0 a = true) (hb : plainB 0 b = true) (h : VR φ (.agg ⟨[x, y, a, b]⟩) v) : v = .agg #[x, y, a, b] := by
  cases h with
  | leaf hl => simp [leafB] at hl
  | @agg _ xs' hs hh =>
    obtain ⟨l'⟩ := xs'
    obtain ⟨p, q, r, s, rfl⟩ : ∃ p q r s, l' = [p, q, r, s] := by
      rcases l' with _ | ⟨p, _ | ⟨q, _ | ⟨r, _ | ⟨s, _ | ⟨t, l'⟩⟩⟩⟩⟩ <;> simp at hs
      exact ⟨p, q, r, s, rfl⟩
    rw [plain_eq 0 _ _ hx (hh 0 _ p rfl rfl), plain_eq 0 _ _ hy (hh 1 _ q rfl rfl), plain_eq 0 _ _ ha (hh 2 _ r rfl rfl), plain_eq 0 _ _ hb (hh 3 _ s rfl rfl)]
set_option maxRecDepth 100000 in
theorem famS_ok {oo : OpO} {w0 : W0} (hoo : OpOk Tryz.prog w0 oo) (hT : TabIn w0.w) : CallOk Tryz.prog oo w0 (famS 29 3) := by
  refine ⟨hoo, fun k args st v st' h φ w args' H hl => ?_⟩
  unfold famS at h
  split at h
  · rename_i hk
    obtain rfl := Nat.eq_of_beq_eq_true hk
    split at h
    · rename_i lo hi a b
      split at h
      · rename_i hg
        simp only [Bool.and_eq_true] at hg
        obtain ⟨⟨g1, g2⟩, g3, g4⟩ := hg
        have g1 : lo < 18446744073709551616 := by simp [Nat.blt] at g1; omega
        have g2 : hi < 18446744073709551616 := by simp [Nat.blt] at g2; omega
        have g3 : 0 < (bitsOf 64 0 lo).length := by simpa [Nat.blt, Nat.lt_iff_add_one_le] using g3
        have g4 : 0 < (bitsOf 64 0 hi).length := by simpa [Nat.blt, Nat.lt_iff_add_one_le] using g4
        cases h
        obtain ⟨v1, rfl⟩ : ∃ v1, args' = [v1] := by
          rcases args' with _ | ⟨v1, _ | ⟨v2, r⟩⟩
          · exact absurd hl.1 (by simp)
          · exact ⟨v1, rfl⟩
          · exact absurd hl.1 (by simp)
        obtain rfl := agg_plain (x := .int .u64 (lo : Int)) (y := .int .u64 (hi : Int)) (a := .int .i64 a) (b := .int .i64 b) rfl rfl rfl rfl hl.cons_inv.1
        have hTw : TabIn w := hT.below H.below hT.lt
        refine .inl ⟨fun w => enters_of Tryz.func29 (by kernel_rfl) rfl _ w, Calls.mono (family_any lo hi a b w g1 g2 hTw) ?_⟩
        rintro x w' ⟨u1, u2, rfl, r1, r2, hd, hb⟩
        obtain ⟨B1, cap1, cur1, rfl, b1, l1, q1, c1, s1, t1⟩ := row_parts r1 g3
        obtain ⟨B2, cap2, cur2, rfl, b2, l2, q2, c2, s2, t2⟩ := row_parts r2 g4
        have hne : B1 ≠ B2 := fun e => by subst e; exact hd B1 rfl rfl
        have hsz := H.below.size
        obtain ⟨H2, K2⟩ := (H.past hb).adopt (B := B1) (fun b B' o S g1 s k e => by have := H.used _ _ _ _ _ _ k; omega) (by omega) l1 (ob := .cells (natCells (bitsOf 64 0 lo)) 3 true 1) (S := cap1 * 1) (g := true) (s := 1)
          ⟨rfl, rfl, cur1, q1, s1, by rw [natCells_len]; omega, (fun e => by cases e), by rw [List.drop_zero, natCells_len, ← Nat.mul_one (bitsOf 64 0 lo).length, t1]; exact plain_LR (natCells_plain _)⟩
        obtain ⟨H3, K3⟩ := H2.adopt (B := B2) (fun b B' o S g1 s k e => by
            by_cases eb : b = st.next
            · subst eb; rw [Pm.tell_same] at k; cases k; exact hne e
            · rw [Pm.tell_other _ _ _ _ eb] at k
              have := H.used _ _ _ _ _ _ k; omega) (by omega) l2 (ob := .cells (natCells (bitsOf 64 0 hi)) 3 true 1) (S := cap2 * 1) (g := true) (s := 1)
          ⟨rfl, rfl, cur2, q2, s2, by rw [natCells_len]; omega, (fun e => by cases e), by rw [List.drop_zero, natCells_len, ← Nat.mul_one (bitsOf 64 0 hi).length, t2]; exact plain_LR (natCells_plain _)⟩
        have hn1 : st.next ≠ st.next + 1 := by omega
        refine ⟨_, _, rfl, H3, K2.trans K3, VR.agg_iff.2 (LR.cons (.slice ?_ ?_) (LR.cons (.slice ?_ ?_) (LR.cons (.leaf rfl) (LR.cons (.leaf rfl) LR.nil))))⟩
        · unfold AR; simp [Pm.tell_same, Pm.tell_other _ _ _ _ hn1]
        · unfold CR
          simp only [Pm.tell_other _ _ _ _ hn1, Pm.tell_same, if_true]
          exact ⟨c1, by omega⟩
        · unfold AR; simp [Pm.tell_same]
        · unfold CR
          simp only [Pm.tell_same, if_true]
          exact ⟨c2, by omega⟩
      · cases h
    · cases h
  · cases h
end Go.Proofs.YtcbjkclajkjicaaGreatDoor
