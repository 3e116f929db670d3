/- The program's Reroot. -/
import Derived.Test.YtcpffonenhhfoabRer
namespace Go.Proofs.Ytcpffonenhhfoab
open Go.RowKit

end Go.Proofs.Ytcpffonenhhfoab
