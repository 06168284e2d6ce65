/- An append, a load of a wide struct, a slice of one, in a region that draws; a row of one's own and one element more (out of PoH). mkQuO.py writes it. -/
import Derived.Test.YtndgdpefoidfbaaQuGm
import Derived.Great.BuildSlice
import Derived.Deep.RegionLaw
namespace Go.Proofs.Ytndgdpefoidfbaa
open Go.RowKit Go.Maps
end Go.Proofs.Ytndgdpefoidfbaa
