/- The contract of the document's parent. -/
import Derived.Test.YtndgdpefoidfbaaZ05
import Derived.Test.YtndgdpefoidfbaaZ02
namespace Go.Proofs.Ytndgdpefoidfbaa
open Go.RowKit Go.Maps
end Go.Proofs.Ytndgdpefoidfbaa
