/-
  DERIVED. GIVEN WITH THE SEED: THE CARDS: each row of YtoimaiaccmmakaaDoorRows.lean that lists a variable, with what it lists TIED to the program's text (the seventh form; the later family's looks); each row that meets fmt, with fmt's text TOLD by the authors' own Lean function (tested against real Go, not proved from fmt's source: count such statements apart). THE CARD IS WHAT COUNTS. Prove the row's statement (the work); the ties are given (YtoimaiaccmmakaaDoorTie.lean); close each card by the builder's one call (the guide's Derived/Test/ToyasCard.lean, 'card_holds'). Laid BY PROGRAM, IN A SANDBOX (cutbox-door.mjs). By AI agents, Wed Nov 11 2026. No macro, syntax, notation, axiom, sorry.
-/
import Derived.Test.YtoimaiaccmmakaaDoorRows
import GoSem.ClaimSeven
namespace Go.Proofs.YtoimaiaccmmakaaDoor
namespace Rows

/-- THE TIED CARD OF 'honeycomblaw03.CellSymmetry'. -/
def cellSymmetryCard : Claim7 := { stood := { row := cellSymmetryRow, standIns := [], harness := (true, "9345cf88f0dde8528709c2e45bb62fc4b426516f520d391a8e8171b88389057d"), looks := false }, kinds := [], alts := [], laidByText := true, laidKinds := [.data], laidTests := true, laidLooks := .later }
def CellSymmetryCardSaid : Prop := Claim7.holds Tryd.pinned (.plain (OpenSpec.ofChange cellSymmetrySpec)) cellSymmetryCard

/-- THE SECOND FORM's CARD OF 'honeycomblaw03.CellSymmetry'. -/
def cellSymmetryUptoCard : Claim7 := { stood := { row := cellSymmetryUptoRow, standIns := [], harness := (true, "9345cf88f0dde8528709c2e45bb62fc4b426516f520d391a8e8171b88389057d"), looks := false }, kinds := [], alts := [], laidByText := true, laidKinds := [.data], laidTests := true, laidLooks := .later }
def CellSymmetryUptoCardSaid : Prop := Claim7.holds Tryd.pinned (.plain (OpenSpec.upto cellSymmetrySpec)) cellSymmetryUptoCard
end Rows
end Go.Proofs.YtoimaiaccmmakaaDoor
