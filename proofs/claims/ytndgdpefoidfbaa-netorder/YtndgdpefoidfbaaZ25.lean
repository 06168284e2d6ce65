/- Texts joined: QuS QuU. -/
import Derived.Test.YtndgdpefoidfbaaZ24
import Derived.Deep.RegionHeld3
import Derived.Test.YtndgdpefoidfbaaQuGm
/- A pile's Push; container/heap's Push over a pile. mkQuJ.py writes it. -/
namespace Go.Proofs.Ytndgdpefoidfbaa
open Go.RowKit Go.Maps
end Go.Proofs.Ytndgdpefoidfbaa

/- A pile of a list that rises (piled). mkQuU.py writes it. -/
namespace Go.Proofs.Ytndgdpefoidfbaa
open Go.RowKit Go.Maps
end Go.Proofs.Ytndgdpefoidfbaa
