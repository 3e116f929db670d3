/- The library's BinarySearchFunc over edges, at the program's compareEdges. -/
import Derived.Test.YtfkoddhojcjohabIns
import Derived.Test.YtfkoddhojcjohabICmp
namespace Go.Proofs.Ytfkoddhojcjohab
open Go.RowKit

end Go.Proofs.Ytfkoddhojcjohab
