/-
  DERIVED. GIVEN WITH THE SEED: THE CARDS: each row of YtahlinekbllkaaaGreatDoorRows.lean that lists a variable, with what it lists TIED to the program's text (the seventh form; the later family's looks); each row that meets fmt, with fmt's text TOLD by the authors' own Lean function (tested against real Go, not proved from fmt's source: count such statements apart). THE CARD IS WHAT COUNTS. Prove the row's statement (the work); the ties are given (YtahlinekbllkaaaGreatDoorTie.lean); close each card by the builder's one call (the guide's Derived/Test/ToyasCard.lean, 'card_holds'). Laid BY PROGRAM, IN A SANDBOX (cutbox-door.mjs). By AI agents, Wed Nov 11 2026. No macro, syntax, notation, axiom, sorry.
-/
import Derived.Test.YtahlinekbllkaaaGreatDoorRows
import GoSem.ClaimSeven
namespace Go.Proofs.YtahlinekbllkaaaGreatDoor
namespace Rows

/-- THE TIED CARD OF 'honeycomblaw13.TreeBuilds'. -/
def treeBuildsCard : Claim7 := { stood := { row := treeBuildsRow, standIns := [], harness := (true, "045a4ccc380793b1a65484924984dcccf75d3eb53ee13817d180799d05754a9d"), looks := true }, kinds := [], alts := [], laidByText := true, laidKinds := [.data], laidTests := true, laidLooks := .later }
def TreeBuildsCardSaid : Prop := Claim7.holds Tryz.pinned (.plain (OpenSpec.ofChange treeBuildsSpec)) treeBuildsCard

/-- THE TIED CARD OF 'honeycomblaw13.TreePuts'. -/
def treePutsCard : Claim7 := { stood := { row := treePutsRow, standIns := [], harness := (true, "045a4ccc380793b1a65484924984dcccf75d3eb53ee13817d180799d05754a9d"), looks := true }, kinds := [], alts := [], laidByText := true, laidKinds := [.data], laidTests := true, laidLooks := .later }
def TreePutsCardSaid : Prop := Claim7.holds Tryz.pinned (.plain (OpenSpec.ofChange treePutsSpec)) treePutsCard

/-- THE TIED CARD OF 'honeycomblaw17.SweepCopies'. -/
def sweepCopiesCard : Claim7 := { stood := { row := sweepCopiesRow, standIns := [], harness := (true, "045a4ccc380793b1a65484924984dcccf75d3eb53ee13817d180799d05754a9d"), looks := true }, kinds := [], alts := [], laidByText := true, laidKinds := [.data], laidTests := true, laidLooks := .later }
def SweepCopiesCardSaid : Prop := Claim7.holds Tryz.pinned (.plain (OpenSpec.ofChange sweepCopiesSpec)) sweepCopiesCard

/-- THE TIED CARD OF 'honeycomblaw17.SweepAgain'. -/
def sweepAgainCard : Claim7 := { stood := { row := sweepAgainRow, standIns := [], harness := (true, "045a4ccc380793b1a65484924984dcccf75d3eb53ee13817d180799d05754a9d"), looks := true }, kinds := [], alts := [], laidByText := true, laidKinds := [.data], laidTests := true, laidLooks := .later }
def SweepAgainCardSaid : Prop := Claim7.holds Tryz.pinned (.plain (OpenSpec.ofChange sweepAgainSpec)) sweepAgainCard

/-- THE SECOND FORM's CARD OF 'honeycomblaw13.TreeBuilds'. -/
def treeBuildsUptoCard : Claim7 := { stood := { row := treeBuildsUptoRow, standIns := [], harness := (true, "045a4ccc380793b1a65484924984dcccf75d3eb53ee13817d180799d05754a9d"), looks := true }, kinds := [], alts := [], laidByText := true, laidKinds := [.data], laidTests := true, laidLooks := .later }
def TreeBuildsUptoCardSaid : Prop := Claim7.holds Tryz.pinned (.plain (OpenSpec.upto treeBuildsSpec)) treeBuildsUptoCard

/-- THE SECOND FORM's CARD OF 'honeycomblaw13.TreePuts'. -/
def treePutsUptoCard : Claim7 := { stood := { row := treePutsUptoRow, standIns := [], harness := (true, "045a4ccc380793b1a65484924984dcccf75d3eb53ee13817d180799d05754a9d"), looks := true }, kinds := [], alts := [], laidByText := true, laidKinds := [.data], laidTests := true, laidLooks := .later }
def TreePutsUptoCardSaid : Prop := Claim7.holds Tryz.pinned (.plain (OpenSpec.upto treePutsSpec)) treePutsUptoCard

/-- THE SECOND FORM's CARD OF 'honeycomblaw17.SweepCopies'. -/
def sweepCopiesUptoCard : Claim7 := { stood := { row := sweepCopiesUptoRow, standIns := [], harness := (true, "045a4ccc380793b1a65484924984dcccf75d3eb53ee13817d180799d05754a9d"), looks := true }, kinds := [], alts := [], laidByText := true, laidKinds := [.data], laidTests := true, laidLooks := .later }
def SweepCopiesUptoCardSaid : Prop := Claim7.holds Tryz.pinned (.plain (OpenSpec.upto sweepCopiesSpec)) sweepCopiesUptoCard

/-- THE SECOND FORM's CARD OF 'honeycomblaw17.SweepAgain'. -/
def sweepAgainUptoCard : Claim7 := { stood := { row := sweepAgainUptoRow, standIns := [], harness := (true, "045a4ccc380793b1a65484924984dcccf75d3eb53ee13817d180799d05754a9d"), looks := true }, kinds := [], alts := [], laidByText := true, laidKinds := [.data], laidTests := true, laidLooks := .later }
def SweepAgainUptoCardSaid : Prop := Claim7.holds Tryz.pinned (.plain (OpenSpec.upto sweepAgainSpec)) sweepAgainUptoCard
end Rows
end Go.Proofs.YtahlinekbllkaaaGreatDoor
