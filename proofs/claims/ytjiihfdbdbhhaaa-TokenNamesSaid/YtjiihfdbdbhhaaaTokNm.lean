/-
  The law on names: variables, plain atoms, the source of an atom.
-/
import Derived.Test.YtjiihfdbdbhhaaaTokSrc
import Derived.Test.YtjiihfdbdbhhaaaTokAw
import Derived.Test.YtjiihfdbdbhhaaaTokK
namespace Go.Proofs.Ytjiihfdbdbhhaaa
open Go.RowKit T

theorem quoteL_ne {s : ByteArray} : quoteL s ≠ [] := by
  unfold quoteL
  split
  · rename_i h
    have := wordB_pos (plain_parts h).1
    intro e
    have e2 : s.size = 0 := by rw [size_list e]; rfl
    omega
  · simp [encL, encP]
theorem quoteL_len {s : ByteArray} (h : meanB s 60 = true) : (quoteL s).length ≤ 200 := by
  obtain ⟨h1, h2⟩ := meanB_parts (m := 60) h
  unfold quoteL
  split
  · omega
  · have := encP_le 39 s.data.toList
    simp only [encL, List.length_append, List.length_cons, List.length_nil]; omega
theorem quote_scan {s : ByteArray} (h : meanB s 60 = true) : scanT (quoteL s) = ([⟨kAtom, s.data.toList, 0⟩], 0, 0) :=
  scan_one (src_atom h (.inl rfl)) quoteL_ne (by have := quoteL_len h; omega)

set_option maxHeartbeats 2000000 in
theorem TokenNames_any (s : ByteArray) (w : World) (hs : s.size ≤ maxLen) :
    Calls Try.prog 5 #[.string s] w fun e w' => e = .returned (.bool true) ∧ Below w.heap.size w w' := by
  have hs' := hs
  unfold maxLen at hs'
  by_cases h : s.size ≤ 1000
  · have V1 := fun wx => Lib.hid (IsVar_any s wx hs)
    have V2 := fun wx => Lib.hid (IsVar_r_any s wx hs)
    have P1 := fun wx => Lib.hid (IsPlain_any s wx hs)
    have P2 := fun wx => Lib.hid (IsPlain_r_any s wx hs)
    have Q1 := fun wx => Quote_any s wx hs
    have Q2 := fun wx => Quote_r_any s wx hs
    rcases hme : meanB s 60 with _ | _
    · have F := show quoteV s = .tuple #[.string ⟨#[]⟩, .int .i64 10] by simp only [quoteV, hme]; rfl
      rw [F] at Q1 Q2
      have Q1 := Lib.hid Q1
      have Q2 := Lib.hid Q2
      clear F hme
      go_enter Try.func5, Try.ntmps5
      go_wp2_with fail
      refine (Q1.out _).mono ?_
      rintro e w1 ⟨rfl, hb1⟩
      go_wp2_with fail
      refine (Q2.out _).mono ?_
      rintro e w2 ⟨rfl, hb2⟩
      go_wp2_with fail
      refine (V1 _).out.mono ?_
      rintro e w' ⟨rfl, rfl⟩
      go_wp2_with fail
      refine (V2 _).out.mono ?_
      rintro e w' ⟨rfl, rfl⟩
      go_wp2_with fail
      refine (P1 _).out.mono ?_
      rintro e w' ⟨rfl, rfl⟩
      go_wp2_with fail
      refine (P2 _).out.mono ?_
      rintro e w' ⟨rfl, rfl⟩
      go_wp2_with fail
      refine (awake_any _).mono ?_
      rintro e w3 ⟨rfl, hb3⟩
      go_wp2_with fail
      go_ret
      exact ⟨rfl, (hb1.trans (hb2.mono hb1.size)).trans (hb3.mono (hb1.trans (hb2.mono hb1.size)).size)⟩
    · have F := show quoteV s = .tuple #[.string ⟨(quoteL s).toArray⟩, .int .i64 0] by simp only [quoteV, hme]; rfl
      rw [F] at Q1 Q2
      have Q1 := Lib.hid Q1
      have Q2 := Lib.hid Q2
      have SC := quote_scan hme
      have hql := quoteL_len hme
      have TK := fun wx => Tokens_any ⟨(quoteL s).toArray⟩ wx (by show (quoteL s).toArray.size ≤ _; unfold maxLen; simp; omega)
      unfold TokensPost at TK
      rw [show (⟨(quoteL s).toArray⟩ : ByteArray).data.toList = quoteL s from rfl, SC] at TK
      have TK := Lib.hid TK
      clear F hme SC hql
      go_enter Try.func5, Try.ntmps5
      go_wp2_with fail
      refine (Q1.out _).mono ?_
      rintro e w1 ⟨rfl, hb1⟩
      go_wp2_with fail
      refine (Q2.out _).mono ?_
      rintro e w2 ⟨rfl, hb2⟩
      go_wp2_with fail
      refine (TK.out _).mono ?_
      rintro e w3 ⟨A, cap, rfl, ho, hb3⟩
      obtain ⟨g, rfl⟩ : ∃ g, A = some ⟨g, 0, none⟩ := by
        rcases ho.2 with ⟨_, hz⟩ | ⟨g, cap', cur, hv, _⟩
        · cases hz
        · exact ⟨g, by injection hv⟩
      have hc := ho.cells (g := g) rfl
      have c0 : w3.cell? ⟨g, 0, none⟩ = some (.string ⟨#[97, 116, 111, 109]⟩) := hc 0 _ rfl
      have c1 : w3.cell? ⟨g, 1, none⟩ = some (.string s) := (hc 1 _ rfl).trans (by rw [← mk_list (rfl : s.data.toList = s.data.toList)])
      clear hc ho
      simp only [List.length_cons, List.length_nil]
      have hb := (hb1.trans (hb2.mono hb1.size)).trans (hb3.mono (hb1.trans (hb2.mono hb1.size)).size)
      go_wp2_with fail
      refine (V1 _).out.mono ?_
      rintro e w' ⟨rfl, rfl⟩
      go_wp2_with fail
      refine (V2 _).out.mono ?_
      rintro e w' ⟨rfl, rfl⟩
      go_wp2_with fail
      refine (P1 _).out.mono ?_
      rintro e w' ⟨rfl, rfl⟩
      go_wp2_with fail
      refine (P2 _).out.mono ?_
      rintro e w' ⟨rfl, rfl⟩
      go_wp2_with fail
      refine (awake_any _).mono ?_
      rintro e w4 ⟨rfl, hb4⟩
      go_wp2_with fail
      go_ret
      exact ⟨rfl, hb.trans (hb4.mono hb.size)⟩
  · go_enter Try.func5, Try.ntmps5
    go_wp2_with fail
    refine (awake_any _).mono ?_
    rintro e w' ⟨rfl, hb⟩
    go_wp2_with fail
    go_ret
    exact ⟨rfl, hb⟩
end Go.Proofs.Ytjiihfdbdbhhaaa
