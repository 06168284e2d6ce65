/- Texts joined: TrC LgD TsA TsC. -/
import Derived.Test.YtndgdpefoidfbaaZ03
/- Contracts of unmergedMayBe and nodeMayBe. -/
namespace Go.Proofs.Ytndgdpefoidfbaa
open Go.RowKit Go.Maps
end Go.Proofs.Ytndgdpefoidfbaa

/- SameAdds, SameSeals, SameJoins of equal rows. -/
namespace Go.Proofs.Ytndgdpefoidfbaa
open Go.RowKit Go.Maps
end Go.Proofs.Ytndgdpefoidfbaa

/- Contracts of the document's blank, leaf, leaves and some. -/
namespace Go.Proofs.Ytndgdpefoidfbaa
open Go.RowKit Go.Maps
end Go.Proofs.Ytndgdpefoidfbaa

/- The contract of the document's twice. -/
namespace Go.Proofs.Ytndgdpefoidfbaa
open Go.RowKit Go.Maps
end Go.Proofs.Ytndgdpefoidfbaa
