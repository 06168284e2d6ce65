/- The contract of Remove, whatever comes of it; of New. -/
import Derived.Test.YtgmlkofogeoocaaGreatDoorZ09
namespace Go.Proofs.YtgmlkofogeoocaaGreatDoor
open Go.RowKit Go.Maps
end Go.Proofs.YtgmlkofogeoocaaGreatDoor
