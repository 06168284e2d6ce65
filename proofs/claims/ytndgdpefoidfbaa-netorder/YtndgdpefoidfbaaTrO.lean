/- The contract of Remove, whatever comes of it; of New. -/
import Derived.Test.YtndgdpefoidfbaaZ10
namespace Go.Proofs.Ytndgdpefoidfbaa
open Go.RowKit Go.Maps
end Go.Proofs.Ytndgdpefoidfbaa
