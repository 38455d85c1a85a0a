/-
  Tokens and Bad, of the program.
-/
import Derived.Test.YtjiihfdbdbhhaaaTokY2
namespace Go.Proofs.Ytjiihfdbdbhhaaa
open Go.RowKit T

/-- a slice of tokens that the call itself has made -/
def TkSl (w : World) (B : Nat) (v : Value) (ts : List Tk) : Prop := ∃ (A : Option Addr) (cap : Nat), v = .slice A ts.length cap ∧ w.ownsRow B 33 3 (.slice A ts.length cap) ts.length (tkCells ts)

set_option maxHeartbeats 1000000 in
theorem scan_all (s : ByteArray) (w : World) (hs : s.size ≤ maxLen) :
    Calls Try.prog 32 #[.string s] w fun e w' => ∃ (A : Option Addr) (cap : Nat), e = .returned (.tuple #[.slice A (scanT s.data.toList).1.length cap, .int .i64 (scanT s.data.toList).2.1, .int .i64 (scanT s.data.toList).2.2]) ∧
      w'.ownsRow w.heap.size 33 3 (.slice A (scanT s.data.toList).1.length cap) (scanT s.data.toList).1.length (tkCells (scanT s.data.toList).1) ∧ Below w.heap.size w w' := by
  by_cases h : s.size ≤ 20000
  · exact scan_any s w h
  · have F := Lib.hid (scanT_long (l := s.data.toList) (by simp; omega))
    unfold maxLen at hs
    go_enter Try.func32, Try.ntmps32
    go_wp2_with fail
    go_returns
    refine ⟨none, 0, ?_⟩
    rw [F.out]
    exact ⟨rfl, World.ownsRow_nil _ _ _ _, Below.refl _ _⟩

def TokensPost (s : ByteArray) (w : World) (e : Ending) (w' : World) : Prop :=
  ∃ (A : Option Addr) (cap : Nat), e = .returned (.tuple #[.slice A (scanT s.data.toList).1.length cap, .int .i64 (scanT s.data.toList).2.2]) ∧
      w'.ownsRow w.heap.size 33 3 (.slice A (scanT s.data.toList).1.length cap) (scanT s.data.toList).1.length (tkCells (scanT s.data.toList).1) ∧ Below w.heap.size w w'
set_option maxHeartbeats 1000000 in
theorem Tokens_any (s : ByteArray) (w : World) (hs : s.size ≤ maxLen) :
    Calls Try.prog 10 #[.string s] w (TokensPost s w) := by
  have C := scan_all s w hs
  generalize ht : scanT s.data.toList = t at C
  have H := Lib.hid ht
  have C := Lib.hid C
  clear ht
  go_enter Try.func10, Try.ntmps10
  go_wp2_with fail
  refine C.out.mono ?_
  rintro e w' ⟨A, cap, rfl, ho, hb⟩
  have HO := Lib.hid ho
  clear ho
  go_wp2_with fail
  go_ret2
  refine ⟨A, cap, ?_⟩
  rw [H.out]
  exact ⟨rfl, HO.out, hb⟩

set_option maxHeartbeats 1000000 in
theorem Bad_any (s : ByteArray) (w : World) (hs : s.size ≤ maxLen) :
    Calls Try.prog 12 #[.string s] w fun e w' => e = .returned (.tuple #[.int .i64 (scanT s.data.toList).2.1, .int .i64 (scanT s.data.toList).2.2]) ∧ Below w.heap.size w w' := by
  have C := scan_all s w hs
  generalize ht : scanT s.data.toList = t at C ⊢
  have C := Lib.hid C
  clear ht
  go_enter Try.func12, Try.ntmps12
  go_wp2_with fail
  refine C.out.mono ?_
  rintro e w' ⟨A, cap, rfl, ho, hb⟩
  clear ho
  go_wp2_with fail
  go_ret2
  exact ⟨rfl, hb⟩
end Go.Proofs.Ytjiihfdbdbhhaaa
