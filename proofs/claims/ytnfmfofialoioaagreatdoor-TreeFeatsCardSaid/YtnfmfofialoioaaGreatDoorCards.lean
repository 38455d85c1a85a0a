/-
  DERIVED. GIVEN WITH THE SEED: THE CARDS: each row of YtnfmfofialoioaaGreatDoorRows.lean that lists a variable, with what it lists TIED to the program's text (the seventh form; the later family's looks); each row that meets fmt, with fmt's text TOLD by the authors' own Lean function (tested against real Go, not proved from fmt's source: count such statements apart). THE CARD IS WHAT COUNTS. Prove the row's statement (the work); the ties are given (YtnfmfofialoioaaGreatDoorTie.lean); close each card by the builder's one call (the guide's Derived/Test/ToyasCard.lean, 'card_holds'). Laid BY PROGRAM, IN A SANDBOX (cutbox-door.mjs). By AI agents, Wed Nov 11 2026. No macro, syntax, notation, axiom, sorry.
-/
import Derived.Test.YtnfmfofialoioaaGreatDoorRows
import GoSem.ClaimSeven
namespace Go.Proofs.YtnfmfofialoioaaGreatDoor
namespace Rows

/-- THE TIED CARD OF 'manystrandlaw02.TreeFeats'. -/
def treeFeatsCard : Claim7 := { stood := { row := treeFeatsRow, standIns := [], harness := (true, "2f5de7f6aafa6c3380bf99870559b698eb20a76fd54c0f8957c0f8928e82741b"), looks := true }, kinds := [], alts := [], laidByText := true, laidKinds := [.data, .data, .data, .sentinel, .sentinel], laidTests := true, laidLooks := .later }
def TreeFeatsCardSaid : Prop := Claim7.holds Tryz.pinned (.plain (OpenSpec.ofChange treeFeatsSpec)) treeFeatsCard

/-- THE SECOND FORM's CARD OF 'manystrandlaw02.TreeFeats'. -/
def treeFeatsUptoCard : Claim7 := { stood := { row := treeFeatsUptoRow, standIns := [], harness := (true, "2f5de7f6aafa6c3380bf99870559b698eb20a76fd54c0f8957c0f8928e82741b"), looks := true }, kinds := [], alts := [], laidByText := true, laidKinds := [.data, .data, .data, .sentinel, .sentinel], laidTests := true, laidLooks := .later }
def TreeFeatsUptoCardSaid : Prop := Claim7.holds Tryz.pinned (.plain (OpenSpec.upto treeFeatsSpec)) treeFeatsUptoCard
end Rows
end Go.Proofs.YtnfmfofialoioaaGreatDoor
