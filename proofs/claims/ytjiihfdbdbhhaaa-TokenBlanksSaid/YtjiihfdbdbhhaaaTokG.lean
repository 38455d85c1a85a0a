/-
  A text between two marks: of the program.
-/
import Derived.Test.YtjiihfdbdbhhaaaTokF
import Derived.Test.YtjiihfdbdbhhaaaTokM2
import Derived.Test.YtjiihfdbdbhhaaaTokBld
namespace Go.Proofs.Ytjiihfdbdbhhaaa
open Go.RowKit T

theorem encP_step (s : ByteArray) (m : UInt8) (k : Nat) (h : k < s.size) : encP m (s.data.toList.take (k + 1)) = encP m (s.data.toList.take k) ++ esc m s[k] := by
  rw [take_snoc s k h, encP_snoc]
theorem encP_len (s : ByteArray) (m : UInt8) (k : Nat) (h : k ≤ s.size) : (Lib.byteCells (encP m (s.data.toList.take k))).length ≤ 2 * k + 1 := by
  have := encP_le m (s.data.toList.take k)
  have h2 : (s.data.toList.take k).length = k := by simp; omega
  simp only [Lib.byteCells, List.length_map]
  omega
theorem bc_snoc (l : List UInt8) (c : UInt8) : Lib.byteCells l ++ [.int .u8 (c.toNat : Int)] = Lib.byteCells (l ++ [c]) := by simp [Lib.byteCells]

set_option maxHeartbeats 2000000 in
theorem enclose_any (s : ByteArray) (m : UInt8) (c : Int) (w : World) (hc : c = (m.toNat : Int)) (hs : s.size ≤ 1000) :
    Calls Try.prog 34 #[.string s, .int .u8 c] w fun e w' => e = .returned (.string ⟨(encL m s.data.toList).toArray⟩) ∧ Below w.heap.size w w' := by
  have C := Lib.hid hc
  clear hc
  go_enter Try.func34, Try.ntmps34
  go_wp2_with fail
  have hz0 := Lib.fresh_isBuilder 54 5 w
  refine (bldByte w.heap.size w.heap.size [] c _ hz0 (by simp) (by simp)).mono ?_
  rintro e w1 ⟨rfl, h1, hb1⟩
  have hb1 := ((Below.refl w.heap.size w).alloc (Nat.le_refl _) _).trans hb1
  go_wp2_with fail
  go_loopw [11] (fun i wr => ∃ k : Nat, k ≤ s.size ∧ i = .int .i64 k ∧ Lib.IsBuilder 54 5 w.heap.size w.heap.size (Lib.byteCells (encP m (s.data.toList.take k))) wr ∧ Below w.heap.size w wr) (fun i _ => s.size - (intOf i).toNat)
  case atStart => exact ⟨0, Nat.zero_le _, rfl, .inr (by simpa [encP, Lib.byteCells, C.out] using h1), hb1⟩
  case round =>
    obtain ⟨k, hk, rfl, h, hb⟩ := hrel
    have Hb := Lib.hid h
    clear h
    have hsz := hb.size
    have hl := encP_len s m k hk
    by_cases hlt : k < s.size
    · have HS := Lib.hid (encP_step s m k hlt)
      rcases q1 : ((s[k].toNat : Int) == c) with _ | _
      · rcases q2 : ((s[k].toNat : Int) == 92) with _ | _
        · rcases q3 : ((s[k].toNat : Int) == 10) with _ | _
          · have E := Lib.hid (show esc m s[k] = [s[k]] by
              have e1 : (s[k] == m) = false := beq_b _ _ _ C.out.symm _ q1
              rw [esc, e1, beq_b _ 92 92 rfl _ q2, beq_b _ 10 10 rfl _ q3]; rfl)
            go_wp2_with fail
            refine (bldByte w.heap.size w.heap.size _ (s[k].toNat : Int) _ Hb.out (by omega) hsz).mono ?_
            rintro e w2 ⟨rfl, h2, hb2⟩
            go_wp2_with fail
            go_roundw
            case rel => exact ⟨k + 1, by omega, by go_num, .inr (by rw [HS.out, E.out, ← bc_snoc]; exact h2), hb.trans hb2⟩
            case measure => simp [intOf]; omega
          · have E := Lib.hid (show esc m s[k] = [92, 110] by
              have e1 : (s[k] == m) = false := beq_b _ _ _ C.out.symm _ q1
              rw [esc, e1, beq_b _ 92 92 rfl _ q2, beq_b _ 10 10 rfl _ q3]; rfl)
            go_wp2_with fail
            refine (bldString w.heap.size w.heap.size _ _ _ Hb.out (by show _ + 2 ≤ _; omega) hsz).mono ?_
            rintro e w2 ⟨rfl, h2, hb2⟩
            go_wp2_with fail
            go_roundw
            case rel => exact ⟨k + 1, by omega, by go_num, .inr (by rw [HS.out, E.out]; simpa [Lib.byteCells, Lib.strCells] using h2), hb.trans hb2⟩
            case measure => simp [intOf]; omega
        · have E := Lib.hid (show esc m s[k] = [92, s[k]] by
              rw [esc, beq_b _ 92 92 rfl _ q2]; simp)
          go_wp2_with fail
          refine (bldByte w.heap.size w.heap.size _ 92 _ Hb.out (by omega) hsz).mono ?_
          rintro e w2 ⟨rfl, h2, hb2⟩
          go_wp2_with fail
          refine (bldByte w.heap.size w.heap.size _ (s[k].toNat : Int) _ (.inr h2) (by simp; omega) (hb.trans hb2).size).mono ?_
          rintro e w3 ⟨rfl, h3, hb3⟩
          go_wp2_with fail
          go_roundw
          case rel => exact ⟨k + 1, by omega, by go_num, .inr (by rw [HS.out, E.out]; simpa [Lib.byteCells] using h3), (hb.trans hb2).trans hb3⟩
          case measure => simp [intOf]; omega
      · have E := Lib.hid (show esc m s[k] = [92, s[k]] by
              have e1 : (s[k] == m) = true := beq_b _ _ _ C.out.symm _ q1
              rw [esc, e1]; simp)
        go_wp2_with fail
        refine (bldByte w.heap.size w.heap.size _ 92 _ Hb.out (by omega) hsz).mono ?_
        rintro e w2 ⟨rfl, h2, hb2⟩
        go_wp2_with fail
        refine (bldByte w.heap.size w.heap.size _ (s[k].toNat : Int) _ (.inr h2) (by simp; omega) (hb.trans hb2).size).mono ?_
        rintro e w3 ⟨rfl, h3, hb3⟩
        go_wp2_with fail
        go_roundw
        case rel => exact ⟨k + 1, by omega, by go_num, .inr (by rw [HS.out, E.out]; simpa [Lib.byteCells] using h3), (hb.trans hb2).trans hb3⟩
        case measure => simp [intOf]; omega
    · have HS := Lib.hid (show s.data.toList.take k = s.data.toList from List.take_of_length_le (by simp; omega))
      go_wp2_with fail
      refine (bldByte w.heap.size w.heap.size _ c _ Hb.out (by omega) hsz).mono ?_
      rintro e w2 ⟨rfl, h2, hb2⟩
      go_wp2_with fail
      refine (Try.Builder_String_any w.heap.size w.heap.size (encL m s.data.toList) _ (.inr (by
        have := h2; rw [C.out, bc_snoc, HS.out] at this; exact this)) (hb.trans hb2).size).mono ?_
      rintro e w3 ⟨rfl, hb3⟩
      go_wp2_with fail
      go_ret
      exact ⟨rfl, (hb.trans hb2).trans hb3⟩
end Go.Proofs.Ytjiihfdbdbhhaaa
