/- Texts joined: TsD TsE. -/
import Derived.Test.YtgmlkofogeoocaaGreatDoorTsB
import Derived.Test.YtgmlkofogeoocaaGreatDoorZ04
import Derived.Test.YtgmlkofogeoocaaGreatDoorZ05
/- The contracts of the document's Check and Size. -/
namespace Go.Proofs.YtgmlkofogeoocaaGreatDoor
open Go.RowKit Go.Maps
end Go.Proofs.YtgmlkofogeoocaaGreatDoor

/- The contracts of the document's Members and Find. -/
namespace Go.Proofs.YtgmlkofogeoocaaGreatDoor
open Go.RowKit Go.Maps
end Go.Proofs.YtgmlkofogeoocaaGreatDoor
