/- receive, what came is wanted. -/
import Derived.Test.YtndgdpefoidfbaaZ28
import Derived.Deep.RegionHeld3
namespace Go.Proofs.Ytndgdpefoidfbaa
open Go.RowKit Go.Maps
end Go.Proofs.Ytndgdpefoidfbaa
