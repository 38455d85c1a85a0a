/-
  DERIVED. GIVEN WITH THE SEED: THE CARDS: each row of YtpejolnjnkcolaaDoorRows.lean that lists a variable, with what it lists TIED to the program's text (the seventh form; the later family's looks); each row that meets fmt, with fmt's text TOLD by the authors' own Lean function (tested against real Go, not proved from fmt's source: count such statements apart). THE CARD IS WHAT COUNTS. Prove the row's statement (the work); the ties are given (YtpejolnjnkcolaaDoorTie.lean); close each card by the builder's one call (the guide's Derived/Test/ToyasCard.lean, 'card_holds'). Laid BY PROGRAM, IN A SANDBOX (cutbox-door.mjs). By AI agents, Wed Nov 11 2026. No macro, syntax, notation, axiom, sorry.
-/
import Derived.Test.YtpejolnjnkcolaaDoorRows
import GoSem.ClaimSeven
namespace Go.Proofs.YtpejolnjnkcolaaDoor
namespace Rows

/-- THE TIED CARD OF 'manystrandlaw06.DomainSets'. -/
def domainSetsCard : Claim7 := { stood := { row := domainSetsRow, standIns := [], harness := (true, "de3c1f017913a10c0233d5e1aba82ea92a34ef61cab4bd4273520b4c15aa13a6"), looks := false }, kinds := [], alts := [], laidByText := true, laidKinds := [.data], laidTests := true, laidLooks := .later }
def DomainSetsCardSaid : Prop := Claim7.holds Tryd.pinned (.plain (OpenSpec.ofChange domainSetsSpec)) domainSetsCard

/-- THE TIED CARD OF 'manystrandlaw06.DomainHolds'. -/
def domainHoldsCard : Claim7 := { stood := { row := domainHoldsRow, standIns := [], harness := (true, "de3c1f017913a10c0233d5e1aba82ea92a34ef61cab4bd4273520b4c15aa13a6"), looks := false }, kinds := [], alts := [], laidByText := true, laidKinds := [.data], laidTests := true, laidLooks := .later }
def DomainHoldsCardSaid : Prop := Claim7.holds Tryd.pinned (.plain (OpenSpec.ofChange domainHoldsSpec)) domainHoldsCard

/-- THE SECOND FORM's CARD OF 'manystrandlaw06.DomainSets'. -/
def domainSetsUptoCard : Claim7 := { stood := { row := domainSetsUptoRow, standIns := [], harness := (true, "de3c1f017913a10c0233d5e1aba82ea92a34ef61cab4bd4273520b4c15aa13a6"), looks := false }, kinds := [], alts := [], laidByText := true, laidKinds := [.data], laidTests := true, laidLooks := .later }
def DomainSetsUptoCardSaid : Prop := Claim7.holds Tryd.pinned (.plain (OpenSpec.upto domainSetsSpec)) domainSetsUptoCard

/-- THE SECOND FORM's CARD OF 'manystrandlaw06.DomainHolds'. -/
def domainHoldsUptoCard : Claim7 := { stood := { row := domainHoldsUptoRow, standIns := [], harness := (true, "de3c1f017913a10c0233d5e1aba82ea92a34ef61cab4bd4273520b4c15aa13a6"), looks := false }, kinds := [], alts := [], laidByText := true, laidKinds := [.data], laidTests := true, laidLooks := .later }
def DomainHoldsUptoCardSaid : Prop := Claim7.holds Tryd.pinned (.plain (OpenSpec.upto domainHoldsSpec)) domainHoldsUptoCard
end Rows
end Go.Proofs.YtpejolnjnkcolaaDoor
