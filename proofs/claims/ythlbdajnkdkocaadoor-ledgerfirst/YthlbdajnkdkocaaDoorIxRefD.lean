/- Contracts of the document's own answers for layer 2: who is below whom, and the rows of nodes above. -/
import Derived.Test.YthlbdajnkdkocaaDoorZ11
import Derived.Test.YthlbdajnkdkocaaDoorIxJoin
namespace Go.Proofs.YthlbdajnkdkocaaDoor
open Go.RowKit
end Go.Proofs.YthlbdajnkdkocaaDoor
