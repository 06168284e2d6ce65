/- Texts joined: TrL TrM TrN TrO. -/
import Derived.Test.YtihniafidgjlcaaGreatDoorZ08
import Derived.Deep.CutRange
/- The contract of Add. -/
namespace Go.Proofs.YtihniafidgjlcaaGreatDoor
open Go.RowKit Go.Maps
end Go.Proofs.YtihniafidgjlcaaGreatDoor

/- The contract of Add, whatever comes of it; of New. -/
namespace Go.Proofs.YtihniafidgjlcaaGreatDoor
open Go.RowKit Go.Maps
end Go.Proofs.YtihniafidgjlcaaGreatDoor

/- The contract of Remove. -/
namespace Go.Proofs.YtihniafidgjlcaaGreatDoor
open Go.RowKit Go.Maps
end Go.Proofs.YtihniafidgjlcaaGreatDoor

/- The contract of Remove, whatever comes of it; of New. -/
namespace Go.Proofs.YtihniafidgjlcaaGreatDoor
open Go.RowKit Go.Maps
end Go.Proofs.YtihniafidgjlcaaGreatDoor
