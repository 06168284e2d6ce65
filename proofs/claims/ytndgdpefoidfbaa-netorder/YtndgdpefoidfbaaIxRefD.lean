/- Contracts of the document's own answers for layer 2: who is below whom, and the rows of nodes above. -/
import Derived.Test.YtndgdpefoidfbaaZ12
import Derived.Test.YtndgdpefoidfbaaIxJoin
namespace Go.Proofs.Ytndgdpefoidfbaa
open Go.RowKit
end Go.Proofs.Ytndgdpefoidfbaa
