/- Texts joined: TsD TsE. -/
import Derived.Test.YtihniafidgjlcaaGreatDoorZ15
import Derived.Test.YtihniafidgjlcaaGreatDoorZ05
/- The contracts of the document's Check and Size. -/
namespace Go.Proofs.YtihniafidgjlcaaGreatDoor
open Go.RowKit Go.Maps
end Go.Proofs.YtihniafidgjlcaaGreatDoor

/- The contracts of the document's Members and Find. -/
namespace Go.Proofs.YtihniafidgjlcaaGreatDoor
open Go.RowKit Go.Maps
end Go.Proofs.YtihniafidgjlcaaGreatDoor
