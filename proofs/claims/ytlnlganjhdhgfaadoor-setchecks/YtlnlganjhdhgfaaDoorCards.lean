/-
  DERIVED. GIVEN WITH THE SEED: THE CARDS: each row of YtlnlganjhdhgfaaDoorRows.lean that lists a variable, with what it lists TIED to the program's text (the seventh form; the later family's looks); each row that meets fmt, with fmt's text TOLD by the authors' own Lean function (tested against real Go, not proved from fmt's source: count such statements apart). THE CARD IS WHAT COUNTS. Prove the row's statement (the work); the ties are given (YtlnlganjhdhgfaaDoorTie.lean); close each card by the builder's one call (the guide's Derived/Test/ToyasCard.lean, 'card_holds'). Laid BY PROGRAM, IN A SANDBOX (cutbox-door.mjs). By AI agents, Wed Nov 11 2026. No macro, syntax, notation, axiom, sorry.
-/
import Derived.Test.YtlnlganjhdhgfaaDoorRows
import GoSem.ClaimSeven
namespace Go.Proofs.YtlnlganjhdhgfaaDoor
namespace Rows

/-- THE TIED CARD OF 'honeycomblaw04.SetChecks'. -/
def setChecksCard : Claim7 := { stood := { row := setChecksRow, standIns := [], harness := (true, "eff28b72cecdf0dd1f874fdcd72b94fa6cd0bd65d339a6ac568a608f9911b321"), looks := true }, kinds := [], alts := [], laidByText := true, laidKinds := [.handle], laidTests := true, laidLooks := .later }
def SetChecksCardSaid : Prop := Claim7.holds Tryd.pinned (.plain (OpenSpec.ofChange setChecksSpec)) setChecksCard

/-- THE SECOND FORM's CARD OF 'honeycomblaw04.SetChecks'. -/
def setChecksUptoCard : Claim7 := { stood := { row := setChecksUptoRow, standIns := [], harness := (true, "eff28b72cecdf0dd1f874fdcd72b94fa6cd0bd65d339a6ac568a608f9911b321"), looks := true }, kinds := [], alts := [], laidByText := true, laidKinds := [.handle], laidTests := true, laidLooks := .later }
def SetChecksUptoCardSaid : Prop := Claim7.holds Tryd.pinned (.plain (OpenSpec.upto setChecksSpec)) setChecksUptoCard
end Rows
end Go.Proofs.YtlnlganjhdhgfaaDoor
