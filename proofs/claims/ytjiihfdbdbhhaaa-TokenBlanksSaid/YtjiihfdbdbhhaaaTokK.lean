/-
  The source of a token: of the program and of the document's own answers.
-/
import Derived.Test.YtjiihfdbdbhhaaaTokJ
namespace Go.Proofs.Ytjiihfdbdbhhaaa
open Go.RowKit T

def textV (k s : ByteArray) : Value := .tuple #[.string ⟨(if validB k.toList s = true then textL k.toList s else []).toArray⟩, .int .i64 (if validB k.toList s = true then 0 else 10)]

theorem bcell {W w1 : World} (hb : Below W.heap.size W w1) : (∀ b o, b < W.heap.size → w1.cell? ⟨b, o, none⟩ = W.cell? ⟨b, o, none⟩) ∧ (∀ b o, b < W.heap.size → w1.frozen? ⟨b, o, none⟩ = W.frozen? ⟨b, o, none⟩) :=
  ⟨fun b o h => hb.cell (p := ⟨b, o, none⟩) h, fun b o h => hb.frozen (p := ⟨b, o, none⟩) h⟩

theorem valid_char {k s : ByteArray} (hv : validB k.toList s = true) (h : (k.toList == [99, 104, 97, 114]) = true) : s.size = 1 := by
  have e := eq_of_beq h
  rw [validB, e] at hv
  simp at hv
  exact hv.1
theorem valid_atom {k s : ByteArray} (hv : validB k.toList s = true) (h : (k.toList == [97, 116, 111, 109]) = true) : meanB s 60 = true := by
  have e := eq_of_beq h
  rw [validB, e] at hv
  simpa using hv
theorem one_byte {s : ByteArray} (h : s.size = 1) (h0 : 0 < s.size) : s.data.toList = [s[0]] := by
  have hl : s.data.toList.length = 1 := by simpa using h
  rcases hL : s.data.toList with _ | ⟨a, _ | ⟨b, l⟩⟩
  · rw [hL] at hl; cases hl
  · have := headD_eq h0
    rw [hL] at this
    simp at this
    rw [← this]
  · rw [hL] at hl; simp at hl

set_option maxHeartbeats 4000000 in
theorem Text_any (k s : ByteArray) (i : Int) (w : World) (hs : s.size ≤ 1000) :
    Calls Try.prog 16 #[.agg #[.string k, .string s, .int .i64 i]] w fun e w' => e = .returned (textV k s) ∧ Below w.heap.size w w' := by
  have hm : s.size ≤ maxLen := by unfold maxLen; omega
  have hb0 := (Below.refl w.heap.size w).alloc (Nat.le_refl _) (.cells #[.string k, .string s, .int .i64 i] 33)
  rcases hv : validB k.toList s with _ | _
  · have F := Lib.hid (show textV k s = .tuple #[.string ⟨#[]⟩, .int .i64 10] by simp only [textV, hv]; rfl)
    go_enter Try.func16, Try.ntmps16
    go_wp2_with fail
    refine (Valid_any k s i _ hs).mono ?_
    rintro e w1 ⟨rfl, hb1⟩
    go_wp2_with fail
    go_ret2
    exact ⟨by rw [F.out]; rfl, hb0.trans (hb1.mono (by simp))⟩
  · rcases h0 : (k.toList == [97, 116, 111, 109]) with _ | _
    · rcases h1 : (k.toList == [116, 101, 120, 116]) with _ | _
      · rcases h2 : (k.toList == [99, 104, 97, 114]) with _ | _
        · have F := Lib.hid (show textV k s = .tuple #[.string s, .int .i64 0] by simp only [textV, textL, hv, h0, h1, h2]; rfl)
          go_enter Try.func16, Try.ntmps16
          go_wp2_with fail
          refine (Valid_any k s i _ hs).mono ?_
          rintro e w1 ⟨rfl, hb1⟩
          obtain ⟨hc, hf⟩ := bcell hb1
          go_wp2_with fail
          go_ret2
          exact ⟨by rw [F.out]; rfl, hb0.trans (hb1.mono (by simp))⟩
        · have hs1 := valid_char hv h2
          have h10 : 0 < s.size := by omega
          have F := Lib.hid (show textV k s = .tuple #[.string ({ data := #[38] } ++ ⟨(charL s[0]).toArray⟩), .int .i64 0] by
            have e : textL k.toList s = 38 :: charL s[0] := by simp only [textL, h0, h1, h2, headD_eq h10]; rfl
            have e2 : (({ data := #[38] } : ByteArray) ++ ⟨(charL s[0]).toArray⟩).data.toList = 38 :: charL s[0] := by simp
            rw [mk_list e2]
            simp only [textV, hv, e]; rfl)
          have hsle : (charL s[0]).length ≤ 2 := by unfold charL; repeat' split
                                                    all_goals simp
          clear hs1
          go_enter Try.func16, Try.ntmps16
          go_wp2_with fail
          refine (Valid_any k s i _ hs).mono ?_
          rintro e w1 ⟨rfl, hb1⟩
          obtain ⟨hc, hf⟩ := bcell hb1
          go_wp2_with fail
          refine (charSource_any _ s[0] _ rfl).mono ?_
          rintro e w2 ⟨rfl, hb2⟩
          go_wp2_with fail
          go_ret2
          exact ⟨by rw [F.out]; rfl, (hb0.trans (hb1.mono (by simp))).trans (hb2.mono (by have := hb1.size; simp at this; omega))⟩
      · have F := Lib.hid (show textV k s = .tuple #[.string ⟨(encL 34 s.data.toList).toArray⟩, .int .i64 0] by simp only [textV, textL, hv, h0, h1]; rfl)
        go_enter Try.func16, Try.ntmps16
        go_wp2_with fail
        refine (Valid_any k s i _ hs).mono ?_
        rintro e w1 ⟨rfl, hb1⟩
        obtain ⟨hc, hf⟩ := bcell hb1
        go_wp2_with fail
        refine (enclose_any s 34 34 _ rfl (by omega)).mono ?_
        rintro e w2 ⟨rfl, hb2⟩
        go_wp2_with fail
        go_ret2
        exact ⟨by rw [F.out]; rfl, (hb0.trans (hb1.mono (by simp))).trans (hb2.mono (by have := hb1.size; simp at this; omega))⟩
    · have hme := valid_atom hv h0
      have F := Lib.hid (show textV k s = quoteV s by simp only [textV, textL, quoteV, hv, h0, hme]; rfl)
      have FQ := Lib.hid (show quoteV s = .tuple #[.string ⟨(quoteL s).toArray⟩, .int .i64 0] by simp only [quoteV, hme]; rfl)
      clear hme
      go_enter Try.func16, Try.ntmps16
      go_wp2_with fail
      refine (Valid_any k s i _ hs).mono ?_
      rintro e w1 ⟨rfl, hb1⟩
      obtain ⟨hc, hf⟩ := bcell hb1
      go_wp2_with fail
      refine (Quote_any s _ hm).mono ?_
      rw [FQ.out]
      rintro e w2 ⟨rfl, hb2⟩
      go_wp2_with fail
      go_ret2
      exact ⟨by rw [F.out, FQ.out]; rfl, (hb0.trans (hb1.mono (by simp))).trans (hb2.mono (by have := hb1.size; simp at this; omega))⟩

set_option maxHeartbeats 4000000 in
theorem Text_r_any (k s : ByteArray) (i : Int) (w : World) (hs : s.size ≤ 1000) :
    Calls Try.prog 17 #[.agg #[.string k, .string s, .int .i64 i]] w fun e w' => e = .returned (textV k s) ∧ Below w.heap.size w w' := by
  have hm : s.size ≤ maxLen := by unfold maxLen; omega
  have hb0 := (Below.refl w.heap.size w).alloc (Nat.le_refl _) (.cells #[.string k, .string s, .int .i64 i] 33)
  rcases hv : validB k.toList s with _ | _
  · have F := Lib.hid (show textV k s = .tuple #[.string ⟨#[]⟩, .int .i64 10] by simp only [textV, hv]; rfl)
    go_enter Try.func17, Try.ntmps17
    go_wp2_with fail
    refine (Valid_r_any k s i _ hs).mono ?_
    rintro e w1 ⟨rfl, hb1⟩
    go_wp2_with fail
    go_ret2
    exact ⟨by rw [F.out]; rfl, hb0.trans (hb1.mono (by simp))⟩
  · rcases h0 : (k.toList == [97, 116, 111, 109]) with _ | _
    · rcases h1 : (k.toList == [116, 101, 120, 116]) with _ | _
      · rcases h2 : (k.toList == [99, 104, 97, 114]) with _ | _
        · have F := Lib.hid (show textV k s = .tuple #[.string s, .int .i64 0] by simp only [textV, textL, hv, h0, h1, h2]; rfl)
          go_enter Try.func17, Try.ntmps17
          go_wp2_with fail
          refine (Valid_r_any k s i _ hs).mono ?_
          rintro e w1 ⟨rfl, hb1⟩
          obtain ⟨hc, hf⟩ := bcell hb1
          go_wp2_with fail
          go_ret2
          exact ⟨by rw [F.out]; rfl, hb0.trans (hb1.mono (by simp))⟩
        · have hs1 := valid_char hv h2
          have h10 : 0 < s.size := by omega
          have F := Lib.hid (show textV k s = .tuple #[.string ⟨(38 :: charL s[0]).toArray⟩, .int .i64 0] by
            have e : textL k.toList s = 38 :: charL s[0] := by simp only [textL, h0, h1, h2, headD_eq h10]; rfl
            simp only [textV, hv, e]; rfl)
          have G := Lib.hid (one_byte hs1 h10)
          have hs1' : s.size ≤ 1 := by omega
          clear hs1
          rcases q1 : ((s[0].toNat : Int) == 10) with _ | _
          · rcases q2 : ((s[0].toNat : Int) == 32) with _ | _
            · rcases q3 : ((s[0].toNat : Int) == 92) with _ | _
              · have E := Lib.hid (show (⟨(38 :: charL s[0]).toArray⟩ : ByteArray) = { data := #[38] } ++ s by
                  have e2 : (({ data := #[38] } : ByteArray) ++ s).data.toList = (38 : UInt8) :: [s[0]] := by simp only [ByteArray.data_append, Array.toList_append, G.out]; rfl
                  rw [mk_list e2, charL, beq_b _ 10 10 rfl _ q1, beq_b _ 32 32 rfl _ q2, beq_b _ 92 92 rfl _ q3]; rfl)
                go_enter Try.func17, Try.ntmps17
                go_wp2_with fail
                refine (Valid_r_any k s i _ hs).mono ?_
                rintro e w1 ⟨rfl, hb1⟩
                obtain ⟨hc, hf⟩ := bcell hb1
                go_wp2_with fail
                go_ret2
                exact ⟨by rw [F.out, E.out]; rfl, hb0.trans (hb1.mono (by simp))⟩
              · have E := Lib.hid (show charL s[0] = [92, 92] by rw [charL, beq_b _ 10 10 rfl _ q1, beq_b _ 32 32 rfl _ q2, beq_b _ 92 92 rfl _ q3]; rfl)
                go_enter Try.func17, Try.ntmps17
                go_wp2_with fail
                refine (Valid_r_any k s i _ hs).mono ?_
                rintro e w1 ⟨rfl, hb1⟩
                obtain ⟨hc, hf⟩ := bcell hb1
                go_wp2_with fail
                go_ret2
                exact ⟨by rw [F.out, E.out]; rfl, hb0.trans (hb1.mono (by simp))⟩
            · have E := Lib.hid (show charL s[0] = [92, 115] by rw [charL, beq_b _ 10 10 rfl _ q1, beq_b _ 32 32 rfl _ q2]; rfl)
              go_enter Try.func17, Try.ntmps17
              go_wp2_with fail
              refine (Valid_r_any k s i _ hs).mono ?_
              rintro e w1 ⟨rfl, hb1⟩
              obtain ⟨hc, hf⟩ := bcell hb1
              go_wp2_with fail
              go_ret2
              exact ⟨by rw [F.out, E.out]; rfl, hb0.trans (hb1.mono (by simp))⟩
          · have E := Lib.hid (show charL s[0] = [92, 110] by rw [charL, beq_b _ 10 10 rfl _ q1]; rfl)
            go_enter Try.func17, Try.ntmps17
            go_wp2_with fail
            refine (Valid_r_any k s i _ hs).mono ?_
            rintro e w1 ⟨rfl, hb1⟩
            obtain ⟨hc, hf⟩ := bcell hb1
            go_wp2_with fail
            go_ret2
            exact ⟨by rw [F.out, E.out]; rfl, hb0.trans (hb1.mono (by simp))⟩
      · have F := Lib.hid (show textV k s = .tuple #[.string ⟨(encL 34 s.data.toList).toArray⟩, .int .i64 0] by simp only [textV, textL, hv, h0, h1]; rfl)
        go_enter Try.func17, Try.ntmps17
        go_wp2_with fail
        refine (Valid_r_any k s i _ hs).mono ?_
        rintro e w1 ⟨rfl, hb1⟩
        obtain ⟨hc, hf⟩ := bcell hb1
        go_wp2_with fail
        refine (quoted_any s _ 34 _ rfl (by decide) (by omega)).mono ?_
        rintro e w2 ⟨rfl, n, rfl⟩
        go_wp2_with fail
        go_ret2
        exact ⟨by rw [F.out]; rfl, below_drewN (hb0.trans (hb1.mono (by simp))) n⟩
    · have hme := valid_atom hv h0
      have F := Lib.hid (show textV k s = quoteV s by simp only [textV, textL, quoteV, hv, h0, hme]; rfl)
      have FQ := Lib.hid (show quoteV s = .tuple #[.string ⟨(quoteL s).toArray⟩, .int .i64 0] by simp only [quoteV, hme]; rfl)
      clear hme
      go_enter Try.func17, Try.ntmps17
      go_wp2_with fail
      refine (Valid_r_any k s i _ hs).mono ?_
      rintro e w1 ⟨rfl, hb1⟩
      obtain ⟨hc, hf⟩ := bcell hb1
      go_wp2_with fail
      refine (Quote_r_any s _ hm).mono ?_
      rw [FQ.out]
      rintro e w2 ⟨rfl, hb2⟩
      go_wp2_with fail
      go_ret2
      exact ⟨by rw [F.out, FQ.out]; rfl, (hb0.trans (hb1.mono (by simp))).trans (hb2.mono (by have := hb1.size; simp at this; omega))⟩
end Go.Proofs.Ytjiihfdbdbhhaaa
