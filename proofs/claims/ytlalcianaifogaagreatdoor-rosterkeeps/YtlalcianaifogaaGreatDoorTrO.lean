/- The contract of Remove, whatever comes of it; of New. -/
import Derived.Test.YtlalcianaifogaaGreatDoorZ09
namespace Go.Proofs.YtlalcianaifogaaGreatDoor
open Go.RowKit Go.Maps
end Go.Proofs.YtlalcianaifogaaGreatDoor
