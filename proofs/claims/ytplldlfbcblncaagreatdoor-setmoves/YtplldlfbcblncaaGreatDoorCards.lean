/-
  DERIVED. GIVEN WITH THE SEED: THE CARDS: each row of YtplldlfbcblncaaGreatDoorRows.lean that lists a variable, with what it lists TIED to the program's text (the seventh form; the later family's looks); each row that meets fmt, with fmt's text TOLD by the authors' own Lean function (tested against real Go, not proved from fmt's source: count such statements apart). THE CARD IS WHAT COUNTS. Prove the row's statement (the work); the ties are given (YtplldlfbcblncaaGreatDoorTie.lean); close each card by the builder's one call (the guide's Derived/Test/ToyasCard.lean, 'card_holds'). Laid BY PROGRAM, IN A SANDBOX (cutbox-door.mjs). By AI agents, Wed Nov 11 2026. No macro, syntax, notation, axiom, sorry.
-/
import Derived.Test.YtplldlfbcblncaaGreatDoorRows
import GoSem.ClaimSeven
namespace Go.Proofs.YtplldlfbcblncaaGreatDoor
namespace Rows

/-- THE TIED CARD OF 'honeycomblaw04.SetMoves'. -/
def setMovesCard : Claim7 := { stood := { row := setMovesRow, standIns := [], harness := (true, "1e4a434564d02c0c5319f628215141886e596f9e2c771eb7c04f85851a8b2fe4"), looks := true }, kinds := [], alts := [], laidByText := true, laidKinds := [.handle], laidTests := true, laidLooks := .later }
def SetMovesCardSaid : Prop := Claim7.holds Tryz.pinned (.plain (OpenSpec.ofChange setMovesSpec)) setMovesCard

/-- THE SECOND FORM's CARD OF 'honeycomblaw04.SetMoves'. -/
def setMovesUptoCard : Claim7 := { stood := { row := setMovesUptoRow, standIns := [], harness := (true, "1e4a434564d02c0c5319f628215141886e596f9e2c771eb7c04f85851a8b2fe4"), looks := true }, kinds := [], alts := [], laidByText := true, laidKinds := [.handle], laidTests := true, laidLooks := .later }
def SetMovesUptoCardSaid : Prop := Claim7.holds Tryz.pinned (.plain (OpenSpec.upto setMovesSpec)) setMovesUptoCard
end Rows
end Go.Proofs.YtplldlfbcblncaaGreatDoor
