/- Contracts of the document's own answers for layer 2: who is below whom, and the rows of nodes above. -/
import Derived.Test.YtnimdnoemmodaaaZ12
import Derived.Test.YtnimdnoemmodaaaIxJoin
namespace Go.Proofs.Ytnimdnoemmodaaa
open Go.RowKit
end Go.Proofs.Ytnimdnoemmodaaa
