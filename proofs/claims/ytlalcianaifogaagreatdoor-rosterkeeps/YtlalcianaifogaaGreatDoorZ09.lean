/- Texts joined: TrL TrM TrN. -/
import Derived.Test.YtlalcianaifogaaGreatDoorZ08
import Derived.Deep.CutRange
/- The contract of Add. -/
namespace Go.Proofs.YtlalcianaifogaaGreatDoor
open Go.RowKit Go.Maps
end Go.Proofs.YtlalcianaifogaaGreatDoor

/- The contract of Add, whatever comes of it; of New. -/
namespace Go.Proofs.YtlalcianaifogaaGreatDoor
open Go.RowKit Go.Maps
end Go.Proofs.YtlalcianaifogaaGreatDoor

/- The contract of Remove. -/
namespace Go.Proofs.YtlalcianaifogaaGreatDoor
open Go.RowKit Go.Maps
end Go.Proofs.YtlalcianaifogaaGreatDoor
