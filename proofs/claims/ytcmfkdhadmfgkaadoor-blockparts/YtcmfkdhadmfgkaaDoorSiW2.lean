/- Contracts of package site: Low, OnesCount32, Count; the law's own look. -/
import Derived.Test.YtcmfkdhadmfgkaaDoorSiW1
namespace Go.Proofs.YtcmfkdhadmfgkaaDoor.Si
open Go.RowKit Go.Proofs.YtcmfkdhadmfgkaaDoor.Ba

end Go.Proofs.YtcmfkdhadmfgkaaDoor.Si
