/-
  The call that each law makes besides: a variable, a sign and a number.
-/
import Derived.Test.YtjiihfdbdbhhaaaTokZ
namespace Go.Proofs.Ytjiihfdbdbhhaaa
open Go.RowKit T

theorem awake_scan : scanT [88, 61, 126, 53] = ([⟨kVar, [88], 0⟩, ⟨kSign, [61], 1⟩, ⟨kInt, [126, 53], 2⟩], 0, 0) := by rfl

set_option maxHeartbeats 2000000 in
theorem awake_any (w : World) : Calls Try.prog 9 #[] w fun e w' => e = .returned (.bool true) ∧ Below w.heap.size w w' := by
  have C := Tokens_any ⟨#[88, 61, 126, 53]⟩ w (by decide)
  unfold TokensPost at C
  rw [show (⟨#[88, 61, 126, 53]⟩ : ByteArray).data.toList = [88, 61, 126, 53] from rfl, awake_scan] at C
  have C := Lib.hid C
  go_enter Try.func9, Try.ntmps9
  go_wp2_with fail
  refine C.out.mono ?_
  rintro e w' ⟨A, cap, rfl, ho, hb⟩
  obtain ⟨g, rfl⟩ : ∃ g, A = some ⟨g, 0, none⟩ := by
    rcases ho.2 with ⟨_, hz⟩ | ⟨g, cap', cur, hv, _⟩
    · cases hz
    · exact ⟨g, by injection hv⟩
  have hc := ho.cells (g := g) rfl
  have c1 := hc 1 _ rfl
  have c4 := hc 4 _ rfl
  have c7 := hc 7 _ rfl
  have c8 := hc 8 _ rfl
  simp [Addr.add] at c1 c4 c7 c8
  clear hc ho
  simp only [List.length_cons, List.length_nil]
  go_wp2_with fail
  go_ret
  exact ⟨rfl, hb⟩
end Go.Proofs.Ytjiihfdbdbhhaaa
