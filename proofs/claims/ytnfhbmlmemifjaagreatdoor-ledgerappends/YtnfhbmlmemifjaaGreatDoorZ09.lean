/- Texts joined: TrK0 TrK TrL0 TrL1. -/
import Derived.Shelf.Spec.SlicesInsert
import Derived.Shelf.Spec.SlicesInsertGrow
import Derived.Laws.AppendOwn
import Derived.Test.YtnfhbmlmemifjaaGreatDoorZ06
/- The library's slices.Insert at []int: one number comes into a row of one's own. -/
namespace Go.Proofs.YtnfhbmlmemifjaaGreatDoor
open Go.Shelf Go.RowKit Go.Maps
-- Lays2.n21: no function slices.Insert[[]int,int]
end Go.Proofs.YtnfhbmlmemifjaaGreatDoor

/- The contract of addUnmerged, on a node of a tree of one's own. -/
namespace Go.Proofs.YtnfhbmlmemifjaaGreatDoor
open Go.Shelf Go.RowKit Go.Maps
end Go.Proofs.YtnfhbmlmemifjaaGreatDoor

/- A tree of one's own in a variable: what steps leave of it. Plain facts of trees that change. No walk is in this text. -/
namespace Go.Proofs.YtnfhbmlmemifjaaGreatDoor
open Go.RowKit Go.Maps
end Go.Proofs.YtnfhbmlmemifjaaGreatDoor

/- Plain facts of a tree to which someone comes. -/
namespace Go.Proofs.YtnfhbmlmemifjaaGreatDoor
open Go.RowKit Go.Maps
end Go.Proofs.YtnfhbmlmemifjaaGreatDoor
