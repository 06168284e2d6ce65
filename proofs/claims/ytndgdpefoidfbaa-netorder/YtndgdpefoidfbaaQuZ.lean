/- A pile that bears a list which rises: what Pop and Push make of it. -/
import Derived.Test.YtndgdpefoidfbaaZ25
import Derived.Test.YtndgdpefoidfbaaZ26
namespace Go.Proofs.Ytndgdpefoidfbaa
open Go.RowKit Go.Maps
end Go.Proofs.Ytndgdpefoidfbaa
