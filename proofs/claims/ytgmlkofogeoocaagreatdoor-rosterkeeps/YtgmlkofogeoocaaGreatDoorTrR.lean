/- The contract of alive, the end of every law of layer 8. -/
import Derived.Test.YtgmlkofogeoocaaGreatDoorZ10
namespace Go.Proofs.YtgmlkofogeoocaaGreatDoor
open Go.RowKit Go.Maps
end Go.Proofs.YtgmlkofogeoocaaGreatDoor
