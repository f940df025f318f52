/- Contracts: bits.TrailingZeros32, With. -/
import Derived.Test.YtcmfkdhadmfgkaaDoorSiW2
import Derived.Test.YtcmfkdhadmfgkaaDoorSiN
import Derived.Test.YtcmfkdhadmfgkaaDoorSeL
namespace Go.Proofs.YtcmfkdhadmfgkaaDoor.Si
open Go.RowKit Go.Proofs.YtcmfkdhadmfgkaaDoor.Ba Go.Proofs.YtcmfkdhadmfgkaaDoor.Se

/-- With, of a cell of the leaf. -/
def bitAt (c : C) : Nat := 2 * (4 * (c.2.1 % 4).toNat + (c.1 % 4).toNat) + c.2.2.toNat
end Go.Proofs.YtcmfkdhadmfgkaaDoor.Si
