/- Texts joined: TrL TrM TrN TrO. -/
import Derived.Test.YtfbomgecdjhojaaGreatDoorZ08
import Derived.Deep.CutRange
/- The contract of Add. -/
namespace Go.Proofs.YtfbomgecdjhojaaGreatDoor
open Go.RowKit Go.Maps
end Go.Proofs.YtfbomgecdjhojaaGreatDoor

/- The contract of Add, whatever comes of it; of New. -/
namespace Go.Proofs.YtfbomgecdjhojaaGreatDoor
open Go.RowKit Go.Maps
end Go.Proofs.YtfbomgecdjhojaaGreatDoor

/- The contract of Remove. -/
namespace Go.Proofs.YtfbomgecdjhojaaGreatDoor
open Go.RowKit Go.Maps
end Go.Proofs.YtfbomgecdjhojaaGreatDoor

/- The contract of Remove, whatever comes of it; of New. -/
namespace Go.Proofs.YtfbomgecdjhojaaGreatDoor
open Go.RowKit Go.Maps
end Go.Proofs.YtfbomgecdjhojaaGreatDoor
