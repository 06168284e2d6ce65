/- The document's Get of logs. -/
import Derived.Test.YtnfhbmlmemifjaaGreatDoorZ32
import Derived.Test.YtnfhbmlmemifjaaGreatDoorZ17
namespace Go.Proofs.YtnfhbmlmemifjaaGreatDoor
open Go.RowKit Go.Maps
end Go.Proofs.YtnfhbmlmemifjaaGreatDoor
