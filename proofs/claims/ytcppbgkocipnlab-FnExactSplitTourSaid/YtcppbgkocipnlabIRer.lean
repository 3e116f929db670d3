/- The program's Reroot. -/
import Derived.Test.YtcppbgkocipnlabRer
namespace Go.Proofs.Ytcppbgkocipnlab
open Go.RowKit

end Go.Proofs.Ytcppbgkocipnlab
