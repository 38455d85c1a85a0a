/-
  DERIVED. GIVEN WITH THE SEED: THE CARDS: each row of YtgjphbkaonaneaaDoorRows.lean that lists a variable, with what it lists TIED to the program's text (the seventh form; the later family's looks); each row that meets fmt, with fmt's text TOLD by the authors' own Lean function (tested against real Go, not proved from fmt's source: count such statements apart). THE CARD IS WHAT COUNTS. Prove the row's statement (the work); the ties are given (YtgjphbkaonaneaaDoorTie.lean); close each card by the builder's one call (the guide's Derived/Test/ToyasCard.lean, 'card_holds'). Laid BY PROGRAM, IN A SANDBOX (cutbox-door.mjs). By AI agents, Wed Nov 11 2026. No macro, syntax, notation, axiom, sorry.
-/
import Derived.Test.YtgjphbkaonaneaaDoorRows
import GoSem.ClaimSeven
namespace Go.Proofs.YtgjphbkaonaneaaDoor
namespace Rows

/-- THE TIED CARD OF 'manystrandlaw06.DomainSets'. -/
def domainSetsCard : Claim7 := { stood := { row := domainSetsRow, standIns := [], harness := (true, "23d8000e0bf044510d9d305754f186dfb86eb4003ddae724e8ae87fe0d065889"), looks := false }, kinds := [], alts := [], laidByText := true, laidKinds := [.data], laidTests := true, laidLooks := .later }
def DomainSetsCardSaid : Prop := Claim7.holds Tryd.pinned (.plain (OpenSpec.ofChange domainSetsSpec)) domainSetsCard

/-- THE TIED CARD OF 'manystrandlaw07.FamilyTells'. -/
def familyTellsCard : Claim7 := { stood := { row := familyTellsRow, standIns := [], harness := (true, "23d8000e0bf044510d9d305754f186dfb86eb4003ddae724e8ae87fe0d065889"), looks := false }, kinds := [], alts := [], laidByText := true, laidKinds := [.data], laidTests := true, laidLooks := .later }
def FamilyTellsCardSaid : Prop := Claim7.holds Tryd.pinned (.plain (OpenSpec.ofChange familyTellsSpec)) familyTellsCard

/-- THE TIED CARD OF 'manystrandlaw07.FamilyHolds'. -/
def familyHoldsCard : Claim7 := { stood := { row := familyHoldsRow, standIns := [], harness := (true, "23d8000e0bf044510d9d305754f186dfb86eb4003ddae724e8ae87fe0d065889"), looks := false }, kinds := [], alts := [], laidByText := true, laidKinds := [.data], laidTests := true, laidLooks := .later }
def FamilyHoldsCardSaid : Prop := Claim7.holds Tryd.pinned (.plain (OpenSpec.ofChange familyHoldsSpec)) familyHoldsCard

/-- THE SECOND FORM's CARD OF 'manystrandlaw06.DomainSets'. -/
def domainSetsUptoCard : Claim7 := { stood := { row := domainSetsUptoRow, standIns := [], harness := (true, "23d8000e0bf044510d9d305754f186dfb86eb4003ddae724e8ae87fe0d065889"), looks := false }, kinds := [], alts := [], laidByText := true, laidKinds := [.data], laidTests := true, laidLooks := .later }
def DomainSetsUptoCardSaid : Prop := Claim7.holds Tryd.pinned (.plain (OpenSpec.upto domainSetsSpec)) domainSetsUptoCard

/-- THE SECOND FORM's CARD OF 'manystrandlaw07.FamilyTells'. -/
def familyTellsUptoCard : Claim7 := { stood := { row := familyTellsUptoRow, standIns := [], harness := (true, "23d8000e0bf044510d9d305754f186dfb86eb4003ddae724e8ae87fe0d065889"), looks := false }, kinds := [], alts := [], laidByText := true, laidKinds := [.data], laidTests := true, laidLooks := .later }
def FamilyTellsUptoCardSaid : Prop := Claim7.holds Tryd.pinned (.plain (OpenSpec.upto familyTellsSpec)) familyTellsUptoCard

/-- THE SECOND FORM's CARD OF 'manystrandlaw07.FamilyHolds'. -/
def familyHoldsUptoCard : Claim7 := { stood := { row := familyHoldsUptoRow, standIns := [], harness := (true, "23d8000e0bf044510d9d305754f186dfb86eb4003ddae724e8ae87fe0d065889"), looks := false }, kinds := [], alts := [], laidByText := true, laidKinds := [.data], laidTests := true, laidLooks := .later }
def FamilyHoldsUptoCardSaid : Prop := Claim7.holds Tryd.pinned (.plain (OpenSpec.upto familyHoldsSpec)) familyHoldsUptoCard
end Rows
end Go.Proofs.YtgjphbkaonaneaaDoor
