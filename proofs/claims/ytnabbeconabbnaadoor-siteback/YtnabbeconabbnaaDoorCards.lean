/-
  DERIVED. GIVEN WITH THE SEED: THE CARDS: each row of YtnabbeconabbnaaDoorRows.lean that lists a variable, with what it lists TIED to the program's text (the seventh form; the later family's looks); each row that meets fmt, with fmt's text TOLD by the authors' own Lean function (tested against real Go, not proved from fmt's source: count such statements apart). THE CARD IS WHAT COUNTS. Prove the row's statement (the work); the ties are given (YtnabbeconabbnaaDoorTie.lean); close each card by the builder's one call (the guide's Derived/Test/ToyasCard.lean, 'card_holds'). Laid BY PROGRAM, IN A SANDBOX (cutbox-door.mjs). By AI agents, Wed Nov 11 2026. No macro, syntax, notation, axiom, sorry.
-/
import Derived.Test.YtnabbeconabbnaaDoorRows
import GoSem.ClaimSeven
namespace Go.Proofs.YtnabbeconabbnaaDoor
namespace Rows

/-- THE TIED CARD OF 'honeycomblaw09.SiteLeaves'. -/
def siteLeavesCard : Claim7 := { stood := { row := siteLeavesRow, standIns := [], harness := (true, "8bc285b7003097cf93da6cc9914ed8c8e795cbafed9f4c69040f73f9be6849d8"), looks := false }, kinds := [], alts := [], laidByText := true, laidKinds := [.data], laidTests := true, laidLooks := .later }
def SiteLeavesCardSaid : Prop := Claim7.holds Tryd.pinned (.plain (OpenSpec.ofChange siteLeavesSpec)) siteLeavesCard

/-- THE TIED CARD OF 'honeycomblaw09.SiteLow'. -/
def siteLowCard : Claim7 := { stood := { row := siteLowRow, standIns := [], harness := (true, "8bc285b7003097cf93da6cc9914ed8c8e795cbafed9f4c69040f73f9be6849d8"), looks := false }, kinds := [], alts := [], laidByText := true, laidKinds := [.data], laidTests := true, laidLooks := .later }
def SiteLowCardSaid : Prop := Claim7.holds Tryd.pinned (.plain (OpenSpec.ofChange siteLowSpec)) siteLowCard

/-- THE TIED CARD OF 'honeycomblaw09.SiteBack'. -/
def siteBackCard : Claim7 := { stood := { row := siteBackRow, standIns := [], harness := (true, "8bc285b7003097cf93da6cc9914ed8c8e795cbafed9f4c69040f73f9be6849d8"), looks := false }, kinds := [], alts := [], laidByText := true, laidKinds := [.data], laidTests := true, laidLooks := .later }
def SiteBackCardSaid : Prop := Claim7.holds Tryd.pinned (.plain (OpenSpec.ofChange siteBackSpec)) siteBackCard

/-- THE SECOND FORM's CARD OF 'honeycomblaw09.SiteLeaves'. -/
def siteLeavesUptoCard : Claim7 := { stood := { row := siteLeavesUptoRow, standIns := [], harness := (true, "8bc285b7003097cf93da6cc9914ed8c8e795cbafed9f4c69040f73f9be6849d8"), looks := false }, kinds := [], alts := [], laidByText := true, laidKinds := [.data], laidTests := true, laidLooks := .later }
def SiteLeavesUptoCardSaid : Prop := Claim7.holds Tryd.pinned (.plain (OpenSpec.upto siteLeavesSpec)) siteLeavesUptoCard

/-- THE SECOND FORM's CARD OF 'honeycomblaw09.SiteLow'. -/
def siteLowUptoCard : Claim7 := { stood := { row := siteLowUptoRow, standIns := [], harness := (true, "8bc285b7003097cf93da6cc9914ed8c8e795cbafed9f4c69040f73f9be6849d8"), looks := false }, kinds := [], alts := [], laidByText := true, laidKinds := [.data], laidTests := true, laidLooks := .later }
def SiteLowUptoCardSaid : Prop := Claim7.holds Tryd.pinned (.plain (OpenSpec.upto siteLowSpec)) siteLowUptoCard

/-- THE SECOND FORM's CARD OF 'honeycomblaw09.SiteBack'. -/
def siteBackUptoCard : Claim7 := { stood := { row := siteBackUptoRow, standIns := [], harness := (true, "8bc285b7003097cf93da6cc9914ed8c8e795cbafed9f4c69040f73f9be6849d8"), looks := false }, kinds := [], alts := [], laidByText := true, laidKinds := [.data], laidTests := true, laidLooks := .later }
def SiteBackUptoCardSaid : Prop := Claim7.holds Tryd.pinned (.plain (OpenSpec.upto siteBackSpec)) siteBackUptoCard
end Rows
end Go.Proofs.YtnabbeconabbnaaDoor
