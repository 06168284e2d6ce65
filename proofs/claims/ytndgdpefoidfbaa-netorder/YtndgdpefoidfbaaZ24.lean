/- Texts joined: QuJ QuK QuM QuN. -/
import Derived.Test.YtndgdpefoidfbaaZ23
import Derived.Deep.RegionHeld3
/- A pile in memory; its Len, Less, Swap. mkQuJ.py writes it. -/
namespace Go.Proofs.Ytndgdpefoidfbaa
open Go.RowKit Go.Maps
end Go.Proofs.Ytndgdpefoidfbaa

/- container/heap's up, over a pile. mkQuJ.py writes it. -/
namespace Go.Proofs.Ytndgdpefoidfbaa
open Go.RowKit Go.Maps
end Go.Proofs.Ytndgdpefoidfbaa

/- container/heap's down, over a pile. mkQuJ.py writes it. -/
namespace Go.Proofs.Ytndgdpefoidfbaa
open Go.RowKit Go.Maps
end Go.Proofs.Ytndgdpefoidfbaa

/- A pile's Pop; container/heap's Pop over a pile. mkQuJ.py writes it. -/
namespace Go.Proofs.Ytndgdpefoidfbaa
open Go.RowKit Go.Maps
end Go.Proofs.Ytndgdpefoidfbaa
