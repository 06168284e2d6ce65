/- Texts joined: TrL TrM TrN. -/
import Derived.Test.YtndgdpefoidfbaaZ09
import Derived.Deep.CutRange
/- The contract of Add. -/
namespace Go.Proofs.Ytndgdpefoidfbaa
open Go.RowKit Go.Maps
end Go.Proofs.Ytndgdpefoidfbaa

/- The contract of Add, whatever comes of it; of New. -/
namespace Go.Proofs.Ytndgdpefoidfbaa
open Go.RowKit Go.Maps
end Go.Proofs.Ytndgdpefoidfbaa

/- The contract of Remove. -/
namespace Go.Proofs.Ytndgdpefoidfbaa
open Go.RowKit Go.Maps
end Go.Proofs.Ytndgdpefoidfbaa
