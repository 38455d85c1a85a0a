/-
  Sources of chars, of atoms and of tokens: of the program and of the document's own answers.
-/
import Derived.Test.YtjiihfdbdbhhaaaTokH
import Derived.Test.YtjiihfdbdbhhaaaTokI
namespace Go.Proofs.Ytjiihfdbdbhhaaa
open Go.RowKit T

set_option maxHeartbeats 1000000 in
theorem charSource_any (c : Int) (u : UInt8) (w : World) (hc : c = (u.toNat : Int)) :
    Calls Try.prog 35 #[.int .u8 c] w fun e w' => e = .returned (.string ⟨(charL u).toArray⟩) ∧ Below w.heap.size w w' := by
  have C := Lib.hid hc
  rcases q1 : (c == 10) with _ | _
  · rcases q2 : (c == 32) with _ | _
    · rcases q3 : (c == 92) with _ | _
      · have E := Lib.hid (show charL u = [u] by
          subst hc
          rw [charL, beq_b _ 10 10 rfl _ q1, beq_b _ 32 32 rfl _ q2, beq_b _ 92 92 rfl _ q3]; rfl)
        subst hc
        have hcv : (convert 42 9 (.slice (some ⟨w.heap.size, 0, none⟩) 1 1)).run Try.prog (w.alloc (.cells #[.int .u8 (u.toNat : Int)] 5)) = .ok (.string ⟨#[u]⟩) (w.alloc (.cells #[.int .u8 (u.toNat : Int)] 5)) :=
          run_convert_bytes_back (P := Try.prog) _ 42 9 5 ⟨w.heap.size, 0, none⟩ 1 [u] Try.underlying42 Try.underlying5 Try.underlying9 (fun j hj => by
            obtain rfl : j = 0 := by simp at hj; omega
            simp [Addr.add])
        go_enter Try.func35, Try.ntmps35
        go_wp2_with fail
        go_ret
        exact ⟨by rw [E.out]; rfl, (Below.refl _ _).alloc (Nat.le_refl _) _⟩
      · have E := Lib.hid (show charL u = [92, 92] by
          subst hc
          rw [charL, beq_b _ 10 10 rfl _ q1, beq_b _ 32 32 rfl _ q2, beq_b _ 92 92 rfl _ q3]; rfl)
        clear hc
        go_enter Try.func35, Try.ntmps35
        go_wp2_with fail
        go_ret
        exact ⟨by rw [E.out]; rfl, Below.refl _ _⟩
    · have E := Lib.hid (show charL u = [92, 115] by
          subst hc
          rw [charL, beq_b _ 10 10 rfl _ q1, beq_b _ 32 32 rfl _ q2]; rfl)
      clear hc
      go_enter Try.func35, Try.ntmps35
      go_wp2_with fail
      go_ret
      exact ⟨by rw [E.out]; rfl, Below.refl _ _⟩
  · have E := Lib.hid (show charL u = [92, 110] by
          subst hc
          rw [charL, beq_b _ 10 10 rfl _ q1]; rfl)
    clear hc
    go_enter Try.func35, Try.ntmps35
    go_wp2_with fail
    go_ret
    exact ⟨by rw [E.out]; rfl, Below.refl _ _⟩

def quoteV (s : ByteArray) : Value := .tuple #[.string ⟨(if meanB s 60 = true then quoteL s else []).toArray⟩, .int .i64 (if meanB s 60 = true then 0 else 10)]

theorem meanB_size {s : ByteArray} {m : Int} (h : meanB s m = true) : (s.size : Int) ≤ m := by
  simp only [meanB, Bool.and_eq_true, decide_eq_true_eq] at h
  exact h.1

set_option maxHeartbeats 1000000 in
theorem Quote_any (s : ByteArray) (w : World) (hs : s.size ≤ maxLen) :
    Calls Try.prog 23 #[.string s] w fun e w' => e = .returned (quoteV s) ∧ Below w.heap.size w w' := by
  rcases h1 : meanB s 60 with _ | _
  · have F := Lib.hid (show quoteV s = .tuple #[.string ⟨#[]⟩, .int .i64 10] by simp only [quoteV, h1]; rfl)
    go_enter Try.func23, Try.ntmps23
    go_wp2_with (go_at_call 37; refine (isMeaning_any _ _ _ hs).mono ?_; rintro e w' ⟨rfl, rfl⟩)
    go_ret2
    exact ⟨by rw [F.out]; rfl, Below.refl _ _⟩
  · have h60 := meanB_size h1
    rcases h2 : plainB s with _ | _
    · have F := Lib.hid (show quoteV s = .tuple #[.string ⟨(encL 39 s.data.toList).toArray⟩, .int .i64 0] by simp only [quoteV, quoteL, h1, h2]; rfl)
      go_enter Try.func23, Try.ntmps23
      go_wp2_with (first | (go_at_call 37; refine (isMeaning_any _ _ _ hs).mono ?_; rintro e w' ⟨rfl, rfl⟩) | (go_at_call 27; refine (IsPlain_any _ _ hs).mono ?_; rintro e w' ⟨rfl, rfl⟩))
      refine (enclose_any s 39 39 _ rfl (by omega)).mono ?_
      rintro e w' ⟨rfl, hb⟩
      go_wp2_with fail
      go_ret2
      exact ⟨by rw [F.out]; rfl, hb⟩
    · have F := Lib.hid (show quoteV s = .tuple #[.string s, .int .i64 0] by simp only [quoteV, quoteL, h1, h2]; rfl)
      go_enter Try.func23, Try.ntmps23
      go_wp2_with (first | (go_at_call 37; refine (isMeaning_any _ _ _ hs).mono ?_; rintro e w' ⟨rfl, rfl⟩) | (go_at_call 27; refine (IsPlain_any _ _ hs).mono ?_; rintro e w' ⟨rfl, rfl⟩))
      go_ret2
      exact ⟨by rw [F.out]; rfl, Below.refl _ _⟩

set_option maxHeartbeats 1000000 in
theorem Quote_r_any (s : ByteArray) (w : World) (hs : s.size ≤ maxLen) :
    Calls Try.prog 24 #[.string s] w fun e w' => e = .returned (quoteV s) ∧ Below w.heap.size w w' := by
  rcases h1 : meanB s 60 with _ | _
  · have F := Lib.hid (show quoteV s = .tuple #[.string ⟨#[]⟩, .int .i64 10] by simp only [quoteV, h1]; rfl)
    go_enter Try.func24, Try.ntmps24
    go_wp2_with (go_at_call 41; refine (inside_any _ _ _ hs).mono ?_; rintro e w' ⟨rfl, rfl⟩)
    go_ret2
    exact ⟨by rw [F.out]; rfl, Below.refl _ _⟩
  · have h60 := meanB_size h1
    rcases h2 : plainB s with _ | _
    · have F := Lib.hid (show quoteV s = .tuple #[.string ⟨(encL 39 s.data.toList).toArray⟩, .int .i64 0] by simp only [quoteV, quoteL, h1, h2]; rfl)
      go_enter Try.func24, Try.ntmps24
      go_wp2_with (first | (go_at_call 41; refine (inside_any _ _ _ hs).mono ?_; rintro e w' ⟨rfl, rfl⟩) | (go_at_call 28; refine (IsPlain_r_any _ _ hs).mono ?_; rintro e w' ⟨rfl, rfl⟩))
      refine (quoted_any s _ 39 _ rfl (by decide) (by omega)).mono ?_
      rintro e w' ⟨rfl, n, rfl⟩
      go_wp2_with fail
      go_ret2
      exact ⟨by rw [F.out]; rfl, below_drewN (Below.refl _ _) n⟩
    · have F := Lib.hid (show quoteV s = .tuple #[.string s, .int .i64 0] by simp only [quoteV, quoteL, h1, h2]; rfl)
      go_enter Try.func24, Try.ntmps24
      go_wp2_with (first | (go_at_call 41; refine (inside_any _ _ _ hs).mono ?_; rintro e w' ⟨rfl, rfl⟩) | (go_at_call 28; refine (IsPlain_r_any _ _ hs).mono ?_; rintro e w' ⟨rfl, rfl⟩))
      go_ret2
      exact ⟨by rw [F.out]; rfl, Below.refl _ _⟩
end Go.Proofs.Ytjiihfdbdbhhaaa
