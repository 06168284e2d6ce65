/- Texts joined: LgS LgU. -/
import Derived.Test.YtnfhbmlmemifjaaGreatDoorZ26
/- Get of package ledger. -/
namespace Go.Proofs.YtnfhbmlmemifjaaGreatDoor
open Go.RowKit Go.Maps
end Go.Proofs.YtnfhbmlmemifjaaGreatDoor

/- Last of package ledger. -/
namespace Go.Proofs.YtnfhbmlmemifjaaGreatDoor
open Go.RowKit Go.Maps
end Go.Proofs.YtnfhbmlmemifjaaGreatDoor
