/- Texts joined: TrLib2 TrP TrQ TrQ2 TrR. -/
import Derived.Shelf.SlicesE.IndexFunc
import Derived.Shelf.SlicesE.DeleteFunc
import Derived.Shelf.Slices.Turned
import Derived.Test.YtnfhbmlmemifjaaGreatDoorZ10
import Derived.Deep.CutRange
/- The library's slices.ContainsFunc, slices.DeleteFunc and slices.Contains at []int, laid off the shelf; contracts of the two closures. -/
namespace Go.Proofs.YtnfhbmlmemifjaaGreatDoor
open Go.Shelf Go.RowKit Go.Maps Go.Sort Go.Lib
-- SlLaysH.n8: no function slices.IndexFunc[[]main.K,main.K]

-- SlLaysH.n10: no function slices.IndexFunc[[]main.K,main.K]

-- Lays.n107: no function slices.Contains[[]int,int]
end Go.Proofs.YtnfhbmlmemifjaaGreatDoor

/- The contract of SetPath, where it comes off. -/
namespace Go.Proofs.YtnfhbmlmemifjaaGreatDoor
open Go.RowKit Go.Maps
end Go.Proofs.YtnfhbmlmemifjaaGreatDoor

/- The contract of Targets. -/
namespace Go.Proofs.YtnfhbmlmemifjaaGreatDoor
open Go.Shelf Go.RowKit Go.Maps Go.Sort Go.Lib
end Go.Proofs.YtnfhbmlmemifjaaGreatDoor

/- The contract of Targets, the walk. -/
namespace Go.Proofs.YtnfhbmlmemifjaaGreatDoor
open Go.RowKit Go.Maps
end Go.Proofs.YtnfhbmlmemifjaaGreatDoor

/- The contract of alive, the end of every law of layer 8. -/
namespace Go.Proofs.YtnfhbmlmemifjaaGreatDoor
open Go.RowKit Go.Maps
end Go.Proofs.YtnfhbmlmemifjaaGreatDoor
