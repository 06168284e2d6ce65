/- Texts joined: QuV QuW QuX. -/
import Derived.Test.YtndgdpefoidfbaaQuR
import Derived.Test.YtndgdpefoidfbaaQuGm
import Derived.Deep.RegionHeld3
/- What came is told (tell). mkQuV.py writes it. -/
namespace Go.Proofs.Ytndgdpefoidfbaa
open Go.RowKit Go.Maps
end Go.Proofs.Ytndgdpefoidfbaa

/- What came is kept (keep). mkQuV.py writes it. -/
namespace Go.Proofs.Ytndgdpefoidfbaa
open Go.RowKit Go.Maps
end Go.Proofs.Ytndgdpefoidfbaa

/- How it goes on (way). mkQuX.py writes it. -/
namespace Go.Proofs.Ytndgdpefoidfbaa
open Go.RowKit Go.Maps
end Go.Proofs.Ytndgdpefoidfbaa
