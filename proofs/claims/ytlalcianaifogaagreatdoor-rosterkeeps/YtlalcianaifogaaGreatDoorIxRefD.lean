/- Contracts of the document's own answers for layer 2: who is below whom, and the rows of nodes above. -/
import Derived.Test.YtlalcianaifogaaGreatDoorZ11
import Derived.Test.YtlalcianaifogaaGreatDoorIxJoin
namespace Go.Proofs.YtlalcianaifogaaGreatDoor
open Go.RowKit
end Go.Proofs.YtlalcianaifogaaGreatDoor
