/- The contract of the document's parent. -/
import Derived.Test.YtgmlkofogeoocaaGreatDoorZ04
import Derived.Test.YtgmlkofogeoocaaGreatDoorZ02
namespace Go.Proofs.YtgmlkofogeoocaaGreatDoor
open Go.RowKit Go.Maps
end Go.Proofs.YtgmlkofogeoocaaGreatDoor
