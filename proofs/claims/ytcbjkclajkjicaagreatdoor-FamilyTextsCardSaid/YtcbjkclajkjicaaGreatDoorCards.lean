/-
  DERIVED. GIVEN WITH THE SEED: THE CARDS: each row of YtcbjkclajkjicaaGreatDoorRows.lean that lists a variable, with what it lists TIED to the program's text (the seventh form; the later family's looks); each row that meets fmt, with fmt's text TOLD by the authors' own Lean function (tested against real Go, not proved from fmt's source: count such statements apart). THE CARD IS WHAT COUNTS. Prove the row's statement (the work); the ties are given (YtcbjkclajkjicaaGreatDoorTie.lean); close each card by the builder's one call (the guide's Derived/Test/ToyasCard.lean, 'card_holds'). Laid BY PROGRAM, IN A SANDBOX (cutbox-door.mjs). By AI agents, Wed Nov 11 2026. No macro, syntax, notation, axiom, sorry.
-/
import Derived.Test.YtcbjkclajkjicaaGreatDoorRows
import GoSem.ClaimSeven
namespace Go.Proofs.YtcbjkclajkjicaaGreatDoor
namespace Rows

/-- THE TIED CARD OF 'manystrandlaw07.FamilyTexts'. -/
def familyTextsCard : Claim7 := { stood := { row := familyTextsRow, standIns := [], harness := (true, "1df8439025e5cb1a11903b0af78192aa4cb72f26a1ff69c424d03c7eb1e07c57"), looks := true }, kinds := [], alts := [], laidByText := true, laidKinds := [.data, .data, .data, .data, .sentinel, .sentinel, .listed, .data, .pinned], laidTests := true, laidLooks := .later }
def FamilyTextsCardSaid : Prop := Claim7.holds Tryz.pinned (.plain (OpenSpec.ofChange familyTextsSpec)) familyTextsCard

/-- THE SECOND FORM's CARD OF 'manystrandlaw07.FamilyTexts'. -/
def familyTextsUptoCard : Claim7 := { stood := { row := familyTextsUptoRow, standIns := [], harness := (true, "1df8439025e5cb1a11903b0af78192aa4cb72f26a1ff69c424d03c7eb1e07c57"), looks := true }, kinds := [], alts := [], laidByText := true, laidKinds := [.data, .data, .data, .data, .sentinel, .sentinel, .listed, .data, .pinned], laidTests := true, laidLooks := .later }
def FamilyTextsUptoCardSaid : Prop := Claim7.holds Tryz.pinned (.plain (OpenSpec.upto familyTextsSpec)) familyTextsUptoCard
end Rows
end Go.Proofs.YtcbjkclajkjicaaGreatDoor
