/- What was acknowledged is dropped (acknowledge). -/
import Derived.Test.YtndgdpefoidfbaaQuDl
import Derived.Test.YtndgdpefoidfbaaZ28
import Derived.Test.YtndgdpefoidfbaaZ27
namespace Go.Proofs.Ytndgdpefoidfbaa
open Go.RowKit Go.Maps
end Go.Proofs.Ytndgdpefoidfbaa
