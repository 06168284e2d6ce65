/- Texts joined: TrL TrM TrN. -/
import Derived.Test.YtgmlkofogeoocaaGreatDoorZ08
import Derived.Deep.CutRange
/- The contract of Add. -/
namespace Go.Proofs.YtgmlkofogeoocaaGreatDoor
open Go.RowKit Go.Maps
end Go.Proofs.YtgmlkofogeoocaaGreatDoor

/- The contract of Add, whatever comes of it; of New. -/
namespace Go.Proofs.YtgmlkofogeoocaaGreatDoor
open Go.RowKit Go.Maps
end Go.Proofs.YtgmlkofogeoocaaGreatDoor

/- The contract of Remove. -/
namespace Go.Proofs.YtgmlkofogeoocaaGreatDoor
open Go.RowKit Go.Maps
end Go.Proofs.YtgmlkofogeoocaaGreatDoor
