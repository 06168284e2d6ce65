/- Contracts of the document's own answers for layer 2: who is below whom, and the rows of nodes above. -/
import Derived.Test.YtgmlkofogeoocaaGreatDoorZ11
import Derived.Test.YtgmlkofogeoocaaGreatDoorIxJoin
namespace Go.Proofs.YtgmlkofogeoocaaGreatDoor
open Go.RowKit
end Go.Proofs.YtgmlkofogeoocaaGreatDoor
