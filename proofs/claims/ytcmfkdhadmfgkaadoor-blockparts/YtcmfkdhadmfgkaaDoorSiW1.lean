/- Contracts of package site: inside, place, State, Put. -/
import Derived.Test.YtcmfkdhadmfgkaaDoorBs
import Derived.Test.YtcmfkdhadmfgkaaDoorSiM
namespace Go.Proofs.YtcmfkdhadmfgkaaDoor.Si
open Go.RowKit Go.Proofs.YtcmfkdhadmfgkaaDoor.Ba

theorem ret_int {k : IntKind} {a b : Int} (h : a = b) : Ending.returned (.int k a) = .returned (.int k b) := by rw [h]
def inQ (a b : Int) : Bool := decide (0 ≤ a ∧ a < 4 ∧ 0 ≤ b ∧ b < 4)
end Go.Proofs.YtcmfkdhadmfgkaaDoor.Si
