/- The library's slices.ContainsFunc, slices.DeleteFunc and slices.Contains at []int, laid off the shelf; contracts of the two closures. -/
import Derived.Shelf.SlicesE.IndexFunc
import Derived.Shelf.SlicesE.DeleteFunc
import Derived.Shelf.Slices.Turned
import Derived.Test.YtcbafeneaoaglaaGreatDoorTrO
namespace Go.Proofs.YtcbafeneaoaglaaGreatDoor
open Go.Shelf Go.RowKit Go.Maps Go.Sort Go.Lib
-- SlLaysH.n8: no function slices.IndexFunc[[]main.K,main.K]

-- SlLaysH.n10: no function slices.IndexFunc[[]main.K,main.K]

-- Lays.n107: no function slices.Contains[[]int,int]

end Go.Proofs.YtcbafeneaoaglaaGreatDoor
