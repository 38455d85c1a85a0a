/-
  The reader of chars, of the program.
-/
import Derived.Test.YtjiihfdbdbhhaaaTokS
namespace Go.Proofs.Ytjiihfdbdbhhaaa
open Go.RowKit T

theorem chB_le (l : List UInt8) : (chB l).2 ≤ 2 := by
  unfold chB
  match l with
  | [] => simp
  | [c] => simp only []; repeat' split
           all_goals simp
  | c :: d :: r => simp only []; repeat' split
                   all_goals simp

set_option maxHeartbeats 2000000 in
theorem readChar_any (s : ByteArray) (k0 : Nat) (i : Int) (w : World) (hs : s.size ≤ 100000) (hi : i = (k0 : Int)) (hlt0 : k0 < s.size) :
    Calls Try.prog 75 #[.string s, .int .i64 i] w fun e w' => e = .returned (rdV (charT (s.data.toList.drop (k0 + 1))) k0) ∧ Below w.heap.size w w' := by
  subst hi
  have C := readCharByte_any (s.extract (k0 + 1) s.size) (w.alloc (Obj.cells #[Value.string { data := #[] }, Value.string { data := #[] }, Value.int IntKind.i64 0] 33)) (by simp; omega)
  rw [Lib.extract_to_end] at C
  have H := char_of (s.data.toList.drop (k0 + 1))
  have N := chB_le (s.data.toList.drop (k0 + 1))
  generalize chB (s.data.toList.drop (k0 + 1)) = ch at C H N
  obtain ⟨u, n⟩ := ch
  simp only [] at C H N
  have C := Lib.hid C
  have H := Lib.hid H
  rcases Nat.eq_zero_or_pos n with h0 | h0
  · subst h0
    have F := Lib.hid (show charT (s.data.toList.drop (k0 + 1)) = none from H.out)
    go_enter Try.func75, Try.ntmps75
    go_wp2_with fail
    refine C.out.mono ?_
    rintro e w' ⟨rfl, rfl⟩
    go_wp2_with fail
    go_returns
    rw [F.out]
    exact ⟨rfl, (Below.refl _ _).alloc (Nat.le_refl _) _⟩
  · have z : ((n : Int) == 0) = false := by simp; omega
    have F := H.out
    rw [if_neg (by simp; omega)] at F
    have F := Lib.hid F
    have hcv : (convert 42 9 (.slice (some ⟨w.heap.size + 1, 0, none⟩) 1 1)).run Try.prog ((w.alloc (Obj.cells #[Value.string { data := #[] }, Value.string { data := #[] }, Value.int IntKind.i64 0] 33)).alloc (.cells #[.int .u8 (u.toNat : Int)] 5)) = .ok (.string ⟨#[u]⟩) ((w.alloc (Obj.cells #[Value.string { data := #[] }, Value.string { data := #[] }, Value.int IntKind.i64 0] 33)).alloc (.cells #[.int .u8 (u.toNat : Int)] 5)) :=
      run_convert_bytes_back (P := Try.prog) _ 42 9 5 ⟨w.heap.size + 1, 0, none⟩ 1 [u] Try.underlying42 Try.underlying5 Try.underlying9 (fun j hj => by
        obtain rfl : j = 0 := by simp at hj; omega
        simp [Addr.add, go_sem])
    go_enter Try.func75, Try.ntmps75
    go_wp2_with fail
    refine C.out.mono ?_
    rintro e w' ⟨rfl, rfl⟩
    go_wp2_with fail
    go_returns
    rw [F.out]
    exact ⟨congrArg _ (rd_mk' (t := ⟨#[u]⟩) rfl _ _ _ (by omega)), ((Below.refl _ _).alloc (Nat.le_refl _) _).alloc (by simp) _⟩
end Go.Proofs.Ytjiihfdbdbhhaaa
