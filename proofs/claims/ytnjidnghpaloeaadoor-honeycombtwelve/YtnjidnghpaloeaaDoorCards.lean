/-
  DERIVED. GIVEN WITH THE SEED: THE CARDS: each row of YtnjidnghpaloeaaDoorRows.lean that lists a variable, with what it lists TIED to the program's text (the seventh form; the later family's looks); each row that meets fmt, with fmt's text TOLD by the authors' own Lean function (tested against real Go, not proved from fmt's source: count such statements apart). THE CARD IS WHAT COUNTS. Prove the row's statement (the work); the ties are given (YtnjidnghpaloeaaDoorTie.lean); close each card by the builder's one call (the guide's Derived/Test/ToyasCard.lean, 'card_holds'). Laid BY PROGRAM, IN A SANDBOX (cutbox-door.mjs). By AI agents, Wed Nov 11 2026. No macro, syntax, notation, axiom, sorry.
-/
import Derived.Test.YtnjidnghpaloeaaDoorRows
import GoSem.ClaimSeven
namespace Go.Proofs.YtnjidnghpaloeaaDoor
namespace Rows

/-- THE TIED CARD OF 'honeycombtop.HoneycombTwelve'. -/
def honeycombTwelveCard : Claim7 := { stood := { row := honeycombTwelveRow, standIns := [], harness := (true, "31bb28ab23f4e16a319ec9976759a22615e5002eea534e634fe177e890c37a3f"), looks := false }, kinds := [], alts := [], laidByText := true, laidKinds := [.data], laidTests := true, laidLooks := .later }
def HoneycombTwelveCardSaid : Prop := Claim7.holds Tryd.pinned (.plain (OpenSpec.ofChange honeycombTwelveSpec)) honeycombTwelveCard

/-- THE SECOND FORM's CARD OF 'honeycombtop.HoneycombTwelve'. -/
def honeycombTwelveUptoCard : Claim7 := { stood := { row := honeycombTwelveUptoRow, standIns := [], harness := (true, "31bb28ab23f4e16a319ec9976759a22615e5002eea534e634fe177e890c37a3f"), looks := false }, kinds := [], alts := [], laidByText := true, laidKinds := [.data], laidTests := true, laidLooks := .later }
def HoneycombTwelveUptoCardSaid : Prop := Claim7.holds Tryd.pinned (.plain (OpenSpec.upto honeycombTwelveSpec)) honeycombTwelveUptoCard
end Rows
end Go.Proofs.YtnjidnghpaloeaaDoor
