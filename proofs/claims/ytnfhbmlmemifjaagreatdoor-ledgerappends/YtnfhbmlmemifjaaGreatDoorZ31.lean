/- Texts joined: RoA RoB LgUnP. -/
import Derived.Test.YtnfhbmlmemifjaaGreatDoorZ05
import Derived.Lib.AppendZerosOnto
import Derived.Lib.Walk
import Derived.Maps.AppendAt
/- slices.Grow of nothing, slices.Concat of two rows, at int. -/
namespace Go.Proofs.YtnfhbmlmemifjaaGreatDoor
open Go.RowKit Go.Maps
end Go.Proofs.YtnfhbmlmemifjaaGreatDoor

/- The members of either tree: rising, each once; slices.Sort and slices.Compact of a row of one's own. -/
namespace Go.Proofs.YtnfhbmlmemifjaaGreatDoor
open Go.Shelf Go.RowKit Go.Maps Go.Sort
end Go.Proofs.YtnfhbmlmemifjaaGreatDoor

/- The members of two trees, rising, each once: by selection, plainly. mkLgUn.py writes it. -/
namespace Go.Proofs.YtnfhbmlmemifjaaGreatDoor
open Go.RowKit Go.Maps
end Go.Proofs.YtnfhbmlmemifjaaGreatDoor
