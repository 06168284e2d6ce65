/- Contracts of the document's own answers for layer 2: who is below whom, and the rows of nodes above. -/
import Derived.Test.YtnngpcijkhjdkaaZ12
import Derived.Test.YtnngpcijkhjdkaaIxJoin
namespace Go.Proofs.Ytnngpcijkhjdkaa
open Go.RowKit
end Go.Proofs.Ytnngpcijkhjdkaa
