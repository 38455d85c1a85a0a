/-
  DERIVED. GIVEN WITH THE SEED: THE CARDS: each row of YthakhdbakmlooaaDoorRows.lean that lists a variable, with what it lists TIED to the program's text (the seventh form; the later family's looks); each row that meets fmt, with fmt's text TOLD by the authors' own Lean function (tested against real Go, not proved from fmt's source: count such statements apart). THE CARD IS WHAT COUNTS. Prove the row's statement (the work); the ties are given (YthakhdbakmlooaaDoorTie.lean); close each card by the builder's one call (the guide's Derived/Test/ToyasCard.lean, 'card_holds'). Laid BY PROGRAM, IN A SANDBOX (cutbox-door.mjs). By AI agents, Wed Nov 11 2026. No macro, syntax, notation, axiom, sorry.
-/
import Derived.Test.YthakhdbakmlooaaDoorRows
import GoSem.ClaimSeven
namespace Go.Proofs.YthakhdbakmlooaaDoor
namespace Rows

/-- THE TIED CARD OF 'manystrandlaw07.FamilyTells'. -/
def familyTellsCard : Claim7 := { stood := { row := familyTellsRow, standIns := [], harness := (true, "10e43b5558acd937ae1a78861e266f27a9267966c4f35fab6ee8113db3a3e14c"), looks := false }, kinds := [], alts := [], laidByText := true, laidKinds := [.data], laidTests := true, laidLooks := .later }
def FamilyTellsCardSaid : Prop := Claim7.holds Tryd.pinned (.plain (OpenSpec.ofChange familyTellsSpec)) familyTellsCard

/-- THE TIED CARD OF 'manystrandlaw07.FamilyHolds'. -/
def familyHoldsCard : Claim7 := { stood := { row := familyHoldsRow, standIns := [], harness := (true, "10e43b5558acd937ae1a78861e266f27a9267966c4f35fab6ee8113db3a3e14c"), looks := false }, kinds := [], alts := [], laidByText := true, laidKinds := [.data], laidTests := true, laidLooks := .later }
def FamilyHoldsCardSaid : Prop := Claim7.holds Tryd.pinned (.plain (OpenSpec.ofChange familyHoldsSpec)) familyHoldsCard

/-- THE TIED CARD OF 'manystrandlaw07.FamilyKeeps'. -/
def familyKeepsCard : Claim7 := { stood := { row := familyKeepsRow, standIns := [], harness := (true, "10e43b5558acd937ae1a78861e266f27a9267966c4f35fab6ee8113db3a3e14c"), looks := false }, kinds := [], alts := [], laidByText := true, laidKinds := [.data], laidTests := true, laidLooks := .later }
def FamilyKeepsCardSaid : Prop := Claim7.holds Tryd.pinned (.plain (OpenSpec.ofChange familyKeepsSpec)) familyKeepsCard

/-- THE TIED CARD OF 'manystrandlaw07.FamilyFixes'. -/
def familyFixesCard : Claim7 := { stood := { row := familyFixesRow, standIns := [], harness := (true, "10e43b5558acd937ae1a78861e266f27a9267966c4f35fab6ee8113db3a3e14c"), looks := false }, kinds := [], alts := [], laidByText := true, laidKinds := [.data], laidTests := true, laidLooks := .later }
def FamilyFixesCardSaid : Prop := Claim7.holds Tryd.pinned (.plain (OpenSpec.ofChange familyFixesSpec)) familyFixesCard

/-- THE SECOND FORM's CARD OF 'manystrandlaw07.FamilyTells'. -/
def familyTellsUptoCard : Claim7 := { stood := { row := familyTellsUptoRow, standIns := [], harness := (true, "10e43b5558acd937ae1a78861e266f27a9267966c4f35fab6ee8113db3a3e14c"), looks := false }, kinds := [], alts := [], laidByText := true, laidKinds := [.data], laidTests := true, laidLooks := .later }
def FamilyTellsUptoCardSaid : Prop := Claim7.holds Tryd.pinned (.plain (OpenSpec.upto familyTellsSpec)) familyTellsUptoCard

/-- THE SECOND FORM's CARD OF 'manystrandlaw07.FamilyHolds'. -/
def familyHoldsUptoCard : Claim7 := { stood := { row := familyHoldsUptoRow, standIns := [], harness := (true, "10e43b5558acd937ae1a78861e266f27a9267966c4f35fab6ee8113db3a3e14c"), looks := false }, kinds := [], alts := [], laidByText := true, laidKinds := [.data], laidTests := true, laidLooks := .later }
def FamilyHoldsUptoCardSaid : Prop := Claim7.holds Tryd.pinned (.plain (OpenSpec.upto familyHoldsSpec)) familyHoldsUptoCard

/-- THE SECOND FORM's CARD OF 'manystrandlaw07.FamilyKeeps'. -/
def familyKeepsUptoCard : Claim7 := { stood := { row := familyKeepsUptoRow, standIns := [], harness := (true, "10e43b5558acd937ae1a78861e266f27a9267966c4f35fab6ee8113db3a3e14c"), looks := false }, kinds := [], alts := [], laidByText := true, laidKinds := [.data], laidTests := true, laidLooks := .later }
def FamilyKeepsUptoCardSaid : Prop := Claim7.holds Tryd.pinned (.plain (OpenSpec.upto familyKeepsSpec)) familyKeepsUptoCard

/-- THE SECOND FORM's CARD OF 'manystrandlaw07.FamilyFixes'. -/
def familyFixesUptoCard : Claim7 := { stood := { row := familyFixesUptoRow, standIns := [], harness := (true, "10e43b5558acd937ae1a78861e266f27a9267966c4f35fab6ee8113db3a3e14c"), looks := false }, kinds := [], alts := [], laidByText := true, laidKinds := [.data], laidTests := true, laidLooks := .later }
def FamilyFixesUptoCardSaid : Prop := Claim7.holds Tryd.pinned (.plain (OpenSpec.upto familyFixesSpec)) familyFixesUptoCard
end Rows
end Go.Proofs.YthakhdbakmlooaaDoor
