/- Texts joined: TrL TrM TrN TrO. -/
import Derived.Test.YtnfhbmlmemifjaaGreatDoorZ09
import Derived.Deep.CutRange
/- The contract of Add. -/
namespace Go.Proofs.YtnfhbmlmemifjaaGreatDoor
open Go.RowKit Go.Maps
end Go.Proofs.YtnfhbmlmemifjaaGreatDoor

/- The contract of Add, whatever comes of it; of New. -/
namespace Go.Proofs.YtnfhbmlmemifjaaGreatDoor
open Go.RowKit Go.Maps
end Go.Proofs.YtnfhbmlmemifjaaGreatDoor

/- The contract of Remove. -/
namespace Go.Proofs.YtnfhbmlmemifjaaGreatDoor
open Go.RowKit Go.Maps
end Go.Proofs.YtnfhbmlmemifjaaGreatDoor

/- The contract of Remove, whatever comes of it; of New. -/
namespace Go.Proofs.YtnfhbmlmemifjaaGreatDoor
open Go.RowKit Go.Maps
end Go.Proofs.YtnfhbmlmemifjaaGreatDoor
