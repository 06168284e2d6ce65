/- Contracts of the document's own answers for layer 2: who is below whom, and the rows of nodes above. -/
import Derived.Test.YtinkfjjpnooomaaZ12
import Derived.Test.YtinkfjjpnooomaaIxJoin
namespace Go.Proofs.Ytinkfjjpnooomaa
open Go.RowKit
end Go.Proofs.Ytinkfjjpnooomaa
