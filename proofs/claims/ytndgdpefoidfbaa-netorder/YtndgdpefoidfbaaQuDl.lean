/- slices.Delete at feeds, from the beginning on. -/
import Derived.Test.YtndgdpefoidfbaaQuZ
import Derived.Test.YtndgdpefoidfbaaQuO
import Derived.Shelf.RegionOpenPlain
import Derived.Deep.RegionLaw
import Derived.Lib.SliceRun
namespace Go.Proofs.Ytndgdpefoidfbaa
open Go.RowKit Go.Maps
end Go.Proofs.Ytndgdpefoidfbaa
