/-
  DERIVED. GIVEN WITH THE SEED: THE CARDS: each row of YtggpleppoplkcaaDoorRows.lean that lists a variable, with what it lists TIED to the program's text (the seventh form; the later family's looks); each row that meets fmt, with fmt's text TOLD by the authors' own Lean function (tested against real Go, not proved from fmt's source: count such statements apart). THE CARD IS WHAT COUNTS. Prove the row's statement (the work); the ties are given (YtggpleppoplkcaaDoorTie.lean); close each card by the builder's one call (the guide's Derived/Test/ToyasCard.lean, 'card_holds'). Laid BY PROGRAM, IN A SANDBOX (cutbox-door.mjs). By AI agents, Wed Nov 11 2026. No macro, syntax, notation, axiom, sorry.
-/
import Derived.Test.YtggpleppoplkcaaDoorRows
import GoSem.ClaimSeven
namespace Go.Proofs.YtggpleppoplkcaaDoor
namespace Rows

/-- THE TIED CARD OF 'honeycomblaw08.FlatSteps'. -/
def flatStepsCard : Claim7 := { stood := { row := flatStepsRow, standIns := [], harness := (true, "a3aadeb82c00d169e1f8cece73d823b73633a35d240fa64450031b692e8c6c50"), looks := false }, kinds := [], alts := [], laidByText := true, laidKinds := [.data], laidTests := true, laidLooks := .later }
def FlatStepsCardSaid : Prop := Claim7.holds Tryd.pinned (.plain (OpenSpec.ofChange flatStepsSpec)) flatStepsCard

/-- THE TIED CARD OF 'honeycomblaw08.FlatFar'. -/
def flatFarCard : Claim7 := { stood := { row := flatFarRow, standIns := [], harness := (true, "a3aadeb82c00d169e1f8cece73d823b73633a35d240fa64450031b692e8c6c50"), looks := false }, kinds := [], alts := [], laidByText := true, laidKinds := [.data], laidTests := true, laidLooks := .later }
def FlatFarCardSaid : Prop := Claim7.holds Tryd.pinned (.plain (OpenSpec.ofChange flatFarSpec)) flatFarCard

/-- THE TIED CARD OF 'honeycomblaw08.FlatShift'. -/
def flatShiftCard : Claim7 := { stood := { row := flatShiftRow, standIns := [], harness := (true, "a3aadeb82c00d169e1f8cece73d823b73633a35d240fa64450031b692e8c6c50"), looks := false }, kinds := [], alts := [], laidByText := true, laidKinds := [.data], laidTests := true, laidLooks := .later }
def FlatShiftCardSaid : Prop := Claim7.holds Tryd.pinned (.plain (OpenSpec.ofChange flatShiftSpec)) flatShiftCard

/-- THE TIED CARD OF 'honeycomblaw08.FlatOne'. -/
def flatOneCard : Claim7 := { stood := { row := flatOneRow, standIns := [], harness := (true, "a3aadeb82c00d169e1f8cece73d823b73633a35d240fa64450031b692e8c6c50"), looks := false }, kinds := [], alts := [], laidByText := true, laidKinds := [.data], laidTests := true, laidLooks := .later }
def FlatOneCardSaid : Prop := Claim7.holds Tryd.pinned (.plain (OpenSpec.ofChange flatOneSpec)) flatOneCard

/-- THE SECOND FORM's CARD OF 'honeycomblaw08.FlatSteps'. -/
def flatStepsUptoCard : Claim7 := { stood := { row := flatStepsUptoRow, standIns := [], harness := (true, "a3aadeb82c00d169e1f8cece73d823b73633a35d240fa64450031b692e8c6c50"), looks := false }, kinds := [], alts := [], laidByText := true, laidKinds := [.data], laidTests := true, laidLooks := .later }
def FlatStepsUptoCardSaid : Prop := Claim7.holds Tryd.pinned (.plain (OpenSpec.upto flatStepsSpec)) flatStepsUptoCard

/-- THE SECOND FORM's CARD OF 'honeycomblaw08.FlatFar'. -/
def flatFarUptoCard : Claim7 := { stood := { row := flatFarUptoRow, standIns := [], harness := (true, "a3aadeb82c00d169e1f8cece73d823b73633a35d240fa64450031b692e8c6c50"), looks := false }, kinds := [], alts := [], laidByText := true, laidKinds := [.data], laidTests := true, laidLooks := .later }
def FlatFarUptoCardSaid : Prop := Claim7.holds Tryd.pinned (.plain (OpenSpec.upto flatFarSpec)) flatFarUptoCard

/-- THE SECOND FORM's CARD OF 'honeycomblaw08.FlatShift'. -/
def flatShiftUptoCard : Claim7 := { stood := { row := flatShiftUptoRow, standIns := [], harness := (true, "a3aadeb82c00d169e1f8cece73d823b73633a35d240fa64450031b692e8c6c50"), looks := false }, kinds := [], alts := [], laidByText := true, laidKinds := [.data], laidTests := true, laidLooks := .later }
def FlatShiftUptoCardSaid : Prop := Claim7.holds Tryd.pinned (.plain (OpenSpec.upto flatShiftSpec)) flatShiftUptoCard

/-- THE SECOND FORM's CARD OF 'honeycomblaw08.FlatOne'. -/
def flatOneUptoCard : Claim7 := { stood := { row := flatOneUptoRow, standIns := [], harness := (true, "a3aadeb82c00d169e1f8cece73d823b73633a35d240fa64450031b692e8c6c50"), looks := false }, kinds := [], alts := [], laidByText := true, laidKinds := [.data], laidTests := true, laidLooks := .later }
def FlatOneUptoCardSaid : Prop := Claim7.holds Tryd.pinned (.plain (OpenSpec.upto flatOneSpec)) flatOneUptoCard
end Rows
end Go.Proofs.YtggpleppoplkcaaDoor
