/- Texts joined: TrLib TrD TrE TrF TrG0 TrG1 TrG TrH0. -/
import Derived.Shelf.SortM.Plain
import Derived.Shelf.SortM.SortNone
import Derived.Shelf.Slices.CompactI
import Derived.Shelf.Slices.SearchI
import Derived.Shelf.Slices.Empties
import Derived.Test.YtndgdpefoidfbaaZ03
import Derived.Test.YtndgdpefoidfbaaZ05
/- The library's slices.Sort, slices.Compact and slices.BinarySearch at []int, laid off the shelf. -/
namespace Go.Proofs.Ytndgdpefoidfbaa
open Go.Shelf Go.RowKit Go.Maps Go.Sort
-- SlLaysM.n5: no function slices.Sort[main.Ks,main.K]

-- Lays2.n20: no function slices.Compact[[]int,int]

-- Lays2.n25: no function slices.BinarySearch[[]int,int]
end Go.Proofs.Ytndgdpefoidfbaa

/- The contract of memberTwice: the members sorted, equal neighbours struck. -/
namespace Go.Proofs.Ytndgdpefoidfbaa
open Go.Shelf Go.RowKit Go.Maps Go.Sort
end Go.Proofs.Ytndgdpefoidfbaa

/- The contracts of mayBe, Check, Size, Members and Find. -/
namespace Go.Proofs.Ytndgdpefoidfbaa
open Go.RowKit Go.Maps
end Go.Proofs.Ytndgdpefoidfbaa

/- The contracts of Check, Size, Members and Find. -/
namespace Go.Proofs.Ytndgdpefoidfbaa
open Go.RowKit Go.Maps
end Go.Proofs.Ytndgdpefoidfbaa

/- Plain facts of resolutions; the append of a row that reads as numbers, as a step of a region that draws. -/
namespace Go.Proofs.Ytndgdpefoidfbaa
open Go.RowKit Go.Maps
end Go.Proofs.Ytndgdpefoidfbaa

/- The contract of resolution, of a node that is not blank. -/
namespace Go.Proofs.Ytndgdpefoidfbaa
open Go.RowKit Go.Maps
end Go.Proofs.Ytndgdpefoidfbaa

/- The contract of resolution: it calls itself. -/
namespace Go.Proofs.Ytndgdpefoidfbaa
open Go.RowKit Go.Maps
end Go.Proofs.Ytndgdpefoidfbaa

/- Rows of rows of numbers, of one's own; plain facts of ways up. No walk is in this text. -/
namespace Go.Proofs.Ytndgdpefoidfbaa
open Go.RowKit Go.Maps
end Go.Proofs.Ytndgdpefoidfbaa
