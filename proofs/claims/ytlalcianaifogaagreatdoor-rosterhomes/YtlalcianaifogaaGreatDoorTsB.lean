/- The contract of the document's parent. -/
import Derived.Test.YtlalcianaifogaaGreatDoorZ04
import Derived.Test.YtlalcianaifogaaGreatDoorZ02
namespace Go.Proofs.YtlalcianaifogaaGreatDoor
open Go.RowKit Go.Maps
end Go.Proofs.YtlalcianaifogaaGreatDoor
