/- The law's Are, of two lists that are the same. -/
import Derived.Test.YtcmfkdhadmfgkaaDoorSeL
namespace Go.Proofs.YtcmfkdhadmfgkaaDoor.Se
open Go.RowKit Go.Proofs.YtcmfkdhadmfgkaaDoor.Ax Go.Proofs.YtcmfkdhadmfgkaaDoor.Ba Go.Lib

end Go.Proofs.YtcmfkdhadmfgkaaDoor.Se
