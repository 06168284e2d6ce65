/- The contract of alive, the end of every law of layer 8. -/
import Derived.Test.YtndgdpefoidfbaaZ11
namespace Go.Proofs.Ytndgdpefoidfbaa
open Go.RowKit Go.Maps
end Go.Proofs.Ytndgdpefoidfbaa
