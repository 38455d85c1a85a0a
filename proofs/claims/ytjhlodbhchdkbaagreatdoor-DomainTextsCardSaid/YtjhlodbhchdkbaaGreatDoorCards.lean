/-
  DERIVED. GIVEN WITH THE SEED: THE CARDS: each row of YtjhlodbhchdkbaaGreatDoorRows.lean that lists a variable, with what it lists TIED to the program's text (the seventh form; the later family's looks); each row that meets fmt, with fmt's text TOLD by the authors' own Lean function (tested against real Go, not proved from fmt's source: count such statements apart). THE CARD IS WHAT COUNTS. Prove the row's statement (the work); the ties are given (YtjhlodbhchdkbaaGreatDoorTie.lean); close each card by the builder's one call (the guide's Derived/Test/ToyasCard.lean, 'card_holds'). Laid BY PROGRAM, IN A SANDBOX (cutbox-door.mjs). By AI agents, Wed Nov 11 2026. No macro, syntax, notation, axiom, sorry.
-/
import Derived.Test.YtjhlodbhchdkbaaGreatDoorRows
import GoSem.ClaimSeven
namespace Go.Proofs.YtjhlodbhchdkbaaGreatDoor
namespace Rows

/-- THE TIED CARD OF 'manystrandlaw06.DomainTexts'. -/
def domainTextsCard : Claim7 := { stood := { row := domainTextsRow, standIns := [], harness := (true, "108cc03a3adfb43514a7da96383306318d2527f129e053ab8607cc1ffd6c1fdf"), looks := true }, kinds := [], alts := [], laidByText := true, laidKinds := [.data, .data, .data, .data, .sentinel, .sentinel, .pinned], laidTests := true, laidLooks := .later }
def DomainTextsCardSaid : Prop := Claim7.holds Tryz.pinned (.plain (OpenSpec.ofChange domainTextsSpec)) domainTextsCard

/-- THE SECOND FORM's CARD OF 'manystrandlaw06.DomainTexts'. -/
def domainTextsUptoCard : Claim7 := { stood := { row := domainTextsUptoRow, standIns := [], harness := (true, "108cc03a3adfb43514a7da96383306318d2527f129e053ab8607cc1ffd6c1fdf"), looks := true }, kinds := [], alts := [], laidByText := true, laidKinds := [.data, .data, .data, .data, .sentinel, .sentinel, .pinned], laidTests := true, laidLooks := .later }
def DomainTextsUptoCardSaid : Prop := Claim7.holds Tryz.pinned (.plain (OpenSpec.upto domainTextsSpec)) domainTextsUptoCard
end Rows
end Go.Proofs.YtjhlodbhchdkbaaGreatDoor
