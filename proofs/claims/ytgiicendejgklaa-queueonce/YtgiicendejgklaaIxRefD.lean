/- Contracts of the document's own answers for layer 2: who is below whom, and the rows of nodes above. -/
import Derived.Test.YtgiicendejgklaaZ12
import Derived.Test.YtgiicendejgklaaIxJoin
namespace Go.Proofs.Ytgiicendejgklaa
open Go.RowKit
end Go.Proofs.Ytgiicendejgklaa
