/- The law's Are, of two lists that are the same. -/
import Derived.Test.YtlnlganjhdhgfaaDoorSeL
namespace Go.Proofs.YtlnlganjhdhgfaaDoor.Se
open Go.RowKit Go.Proofs.YtlnlganjhdhgfaaDoor.Ax Go.Proofs.YtlnlganjhdhgfaaDoor.Ba Go.Lib

end Go.Proofs.YtlnlganjhdhgfaaDoor.Se
