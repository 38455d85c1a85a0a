/-
  How slices of integers lie; the ground of the texts about domains.
-/
import Derived.Test.YtjhlodbhchdkbaaGreatDoorRows
import Derived.Handy
import Derived.Deep.RegionHeld3
import Derived.Lib.Hide
import Derived.WalkLawsBesides
import Derived.IntWalk
import Derived.Deep.QuietTactic
import Derived.BigQuiet
import Derived.WalkSmall
import Derived.OneCell
import Derived.Test.YtjhlodbhchdkbaaGreatDoorEvW
namespace Go.Proofs.YtjhlodbhchdkbaaGreatDoor
open Go Go.RowKit Go.Ev

/-- a slice of integers that lies in a world -/
def Ints (w : World) (A : Option Addr) (xs : List Int) : Prop := xs.length ≤ 1000000 ∧ (∀ x ∈ xs, -9223372036854775808 ≤ x ∧ x ≤ 9223372036854775807) ∧
  (0 < xs.length → ∃ b off, A = some ⟨b, off, none⟩ ∧ b < w.heap.size ∧ ∀ i (h : i < xs.length), w.cell? ⟨b, off + i, none⟩ = some (.int .i64 xs[i]))
theorem Ints.over {w w' : World} {A : Option Addr} {xs : List Int} (h : Ints w A xs) (k : Below w.heap.size w w') : Ints w' A xs :=
  ⟨h.1, h.2.1, fun hp => by
    obtain ⟨b, off, e, hb, hc⟩ := h.2.2 hp
    exact ⟨b, off, e, Nat.lt_of_lt_of_le hb k.size, fun i hi => (k.cell (p := ⟨b, off + i, none⟩) hb).trans (hc i hi)⟩⟩
theorem infoI : (Tryz.prog.info? 3).map (fun i => (i.zero, i.size, i.bytes)) = some (some (.int .i64 0), 1, 8) := by kernel_rfl
theorem lr2 {φ : Pm} {x y : Value} {l : List Value} (h : LR φ [x, y] l) : ∃ x' y', l = [x', y'] ∧ VR φ x x' ∧ VR φ y y' := by
  obtain ⟨a, b, rfl⟩ : ∃ a b, l = [a, b] := by
    have hl := h.1
    rcases l with _ | ⟨a, _ | ⟨b, _ | ⟨d, l⟩⟩⟩ <;> simp at hl
    exact ⟨a, b, rfl⟩
  obtain ⟨h1, h⟩ := h.cons_inv
  exact ⟨a, b, rfl, h1, h.cons_inv.1⟩
end Go.Proofs.YtjhlodbhchdkbaaGreatDoor
