/-
  DERIVED. GIVEN WITH THE SEED: THE CARDS: each row of YtjongkbjhiblmaaDoorRows.lean that lists a variable, with what it lists TIED to the program's text (the seventh form; the later family's looks); each row that meets fmt, with fmt's text TOLD by the authors' own Lean function (tested against real Go, not proved from fmt's source: count such statements apart). THE CARD IS WHAT COUNTS. Prove the row's statement (the work); the ties are given (YtjongkbjhiblmaaDoorTie.lean); close each card by the builder's one call (the guide's Derived/Test/ToyasCard.lean, 'card_holds'). Laid BY PROGRAM, IN A SANDBOX (cutbox-door.mjs). By AI agents, Wed Nov 11 2026. No macro, syntax, notation, axiom, sorry.
-/
import Derived.Test.YtjongkbjhiblmaaDoorRows
import GoSem.ClaimSeven
namespace Go.Proofs.YtjongkbjhiblmaaDoor
namespace Rows

/-- THE TIED CARD OF 'honeycomblaw08.FlatSteps'. -/
def flatStepsCard : Claim7 := { stood := { row := flatStepsRow, standIns := [], harness := (true, "c762b44311b7fc7735c7bf695b46555dabb24ebd34aff371486f03828f002602"), looks := false }, kinds := [], alts := [], laidByText := true, laidKinds := [.data], laidTests := true, laidLooks := .later }
def FlatStepsCardSaid : Prop := Claim7.holds Tryd.pinned (.plain (OpenSpec.ofChange flatStepsSpec)) flatStepsCard

/-- THE SECOND FORM's CARD OF 'honeycomblaw08.FlatSteps'. -/
def flatStepsUptoCard : Claim7 := { stood := { row := flatStepsUptoRow, standIns := [], harness := (true, "c762b44311b7fc7735c7bf695b46555dabb24ebd34aff371486f03828f002602"), looks := false }, kinds := [], alts := [], laidByText := true, laidKinds := [.data], laidTests := true, laidLooks := .later }
def FlatStepsUptoCardSaid : Prop := Claim7.holds Tryd.pinned (.plain (OpenSpec.upto flatStepsSpec)) flatStepsUptoCard
end Rows
end Go.Proofs.YtjongkbjhiblmaaDoor
