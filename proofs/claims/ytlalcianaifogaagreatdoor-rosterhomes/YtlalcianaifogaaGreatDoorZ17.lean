/- Texts joined: TsD TsE. -/
import Derived.Test.YtlalcianaifogaaGreatDoorTsB
import Derived.Test.YtlalcianaifogaaGreatDoorZ04
import Derived.Test.YtlalcianaifogaaGreatDoorZ05
/- The contracts of the document's Check and Size. -/
namespace Go.Proofs.YtlalcianaifogaaGreatDoor
open Go.RowKit Go.Maps
end Go.Proofs.YtlalcianaifogaaGreatDoor

/- The contracts of the document's Members and Find. -/
namespace Go.Proofs.YtlalcianaifogaaGreatDoor
open Go.RowKit Go.Maps
end Go.Proofs.YtlalcianaifogaaGreatDoor
