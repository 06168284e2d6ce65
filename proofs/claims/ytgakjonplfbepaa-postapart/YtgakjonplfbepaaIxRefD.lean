/- Contracts of the document's own answers for layer 2: who is below whom, and the rows of nodes above. -/
import Derived.Test.YtgakjonplfbepaaZ12
import Derived.Test.YtgakjonplfbepaaIxJoin
namespace Go.Proofs.Ytgakjonplfbepaa
open Go.RowKit
end Go.Proofs.Ytgakjonplfbepaa
