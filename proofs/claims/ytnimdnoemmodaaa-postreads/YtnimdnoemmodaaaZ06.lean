/- Texts joined: TrLib TrD TrE TrF TrG0 TrG1 TrG TrH0. -/
import Derived.Shelf.SortM.Plain
import Derived.Shelf.SortM.SortNone
import Derived.Shelf.Slices.CompactI
import Derived.Shelf.Slices.SearchI
import Derived.Shelf.Slices.Empties
import Derived.Test.YtnimdnoemmodaaaZ03
import Derived.Test.YtnimdnoemmodaaaZ05
/- The library's slices.Sort, slices.Compact and slices.BinarySearch at []int, laid off the shelf. -/
namespace Go.Proofs.Ytnimdnoemmodaaa
open Go.Shelf Go.RowKit Go.Maps Go.Sort
-- SlLaysM.n5: no function slices.Sort[main.Ks,main.K]

-- Lays2.n20: no function slices.Compact[[]int,int]

-- Lays2.n25: no function slices.BinarySearch[[]int,int]
end Go.Proofs.Ytnimdnoemmodaaa

/- The contract of memberTwice: the members sorted, equal neighbours struck. -/
namespace Go.Proofs.Ytnimdnoemmodaaa
open Go.Shelf Go.RowKit Go.Maps Go.Sort
end Go.Proofs.Ytnimdnoemmodaaa

/- The contracts of mayBe, Check, Size, Members and Find. -/
namespace Go.Proofs.Ytnimdnoemmodaaa
open Go.RowKit Go.Maps
end Go.Proofs.Ytnimdnoemmodaaa

/- The contracts of Check, Size, Members and Find. -/
namespace Go.Proofs.Ytnimdnoemmodaaa
open Go.RowKit Go.Maps
end Go.Proofs.Ytnimdnoemmodaaa

/- Plain facts of resolutions; the append of a row that reads as numbers, as a step of a region that draws. -/
namespace Go.Proofs.Ytnimdnoemmodaaa
open Go.RowKit Go.Maps
end Go.Proofs.Ytnimdnoemmodaaa

/- The contract of resolution, of a node that is not blank. -/
namespace Go.Proofs.Ytnimdnoemmodaaa
open Go.RowKit Go.Maps
end Go.Proofs.Ytnimdnoemmodaaa

/- The contract of resolution: it calls itself. -/
namespace Go.Proofs.Ytnimdnoemmodaaa
open Go.RowKit Go.Maps
end Go.Proofs.Ytnimdnoemmodaaa

/- Rows of rows of numbers, of one's own; plain facts of ways up. No walk is in this text. -/
namespace Go.Proofs.Ytnimdnoemmodaaa
open Go.RowKit Go.Maps
end Go.Proofs.Ytnimdnoemmodaaa
