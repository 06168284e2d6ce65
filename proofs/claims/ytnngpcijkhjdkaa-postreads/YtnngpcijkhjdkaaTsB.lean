/- The contract of the document's parent. -/
import Derived.Test.YtnngpcijkhjdkaaZ05
import Derived.Test.YtnngpcijkhjdkaaZ02
namespace Go.Proofs.Ytnngpcijkhjdkaa
open Go.RowKit Go.Maps
end Go.Proofs.Ytnngpcijkhjdkaa
