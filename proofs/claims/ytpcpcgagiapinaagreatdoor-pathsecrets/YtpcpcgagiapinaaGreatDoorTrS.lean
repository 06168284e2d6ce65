/- What the laws of layer 8 ask besides: TreeSize, Beyond, SameNode, has, names. -/
import Derived.Test.YtpcpcgagiapinaaGreatDoorZ10
import Derived.Test.YtpcpcgagiapinaaGreatDoorZ03
namespace Go.Proofs.YtpcpcgagiapinaaGreatDoor
open Go.RowKit Go.Maps
end Go.Proofs.YtpcpcgagiapinaaGreatDoor
