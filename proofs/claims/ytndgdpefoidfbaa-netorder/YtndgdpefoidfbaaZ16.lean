/- Texts joined: TsD TsE. -/
import Derived.Test.YtndgdpefoidfbaaTsB
import Derived.Test.YtndgdpefoidfbaaZ05
import Derived.Test.YtndgdpefoidfbaaZ06
/- The contracts of the document's Check and Size. -/
namespace Go.Proofs.Ytndgdpefoidfbaa
open Go.RowKit Go.Maps
end Go.Proofs.Ytndgdpefoidfbaa

/- The contracts of the document's Members and Find. -/
namespace Go.Proofs.Ytndgdpefoidfbaa
open Go.RowKit Go.Maps
end Go.Proofs.Ytndgdpefoidfbaa
