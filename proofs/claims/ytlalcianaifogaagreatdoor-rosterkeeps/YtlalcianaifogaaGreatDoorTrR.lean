/- The contract of alive, the end of every law of layer 8. -/
import Derived.Test.YtlalcianaifogaaGreatDoorZ10
namespace Go.Proofs.YtlalcianaifogaaGreatDoor
open Go.RowKit Go.Maps
end Go.Proofs.YtlalcianaifogaaGreatDoor
