/- How great feeds and links are, as they come in: FeedSize, LinkSize, size. mkQuLs.py writes it. -/
import Derived.Test.YtgiicendejgklaaZ18
import Derived.Test.YtgiicendejgklaaZ28
import Derived.Deep.RegionHeld3
namespace Go.Proofs.Ytgiicendejgklaa
open Go.RowKit Go.Maps
end Go.Proofs.Ytgiicendejgklaa
