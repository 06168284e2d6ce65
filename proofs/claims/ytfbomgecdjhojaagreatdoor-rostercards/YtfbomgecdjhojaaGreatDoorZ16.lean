/- Texts joined: TsD TsE. -/
import Derived.Test.YtfbomgecdjhojaaGreatDoorZ15
import Derived.Test.YtfbomgecdjhojaaGreatDoorZ05
/- The contracts of the document's Check and Size. -/
namespace Go.Proofs.YtfbomgecdjhojaaGreatDoor
open Go.RowKit Go.Maps
end Go.Proofs.YtfbomgecdjhojaaGreatDoor

/- The contracts of the document's Members and Find. -/
namespace Go.Proofs.YtfbomgecdjhojaaGreatDoor
open Go.RowKit Go.Maps
end Go.Proofs.YtfbomgecdjhojaaGreatDoor
