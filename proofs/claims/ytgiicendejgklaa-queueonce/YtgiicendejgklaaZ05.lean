/- Texts joined: TrC LgD TsA TsC. -/
import Derived.Test.YtgiicendejgklaaZ03
/- Contracts of unmergedMayBe and nodeMayBe. -/
namespace Go.Proofs.Ytgiicendejgklaa
open Go.RowKit Go.Maps
end Go.Proofs.Ytgiicendejgklaa

/- SameAdds, SameSeals, SameJoins of equal rows. -/
namespace Go.Proofs.Ytgiicendejgklaa
open Go.RowKit Go.Maps
end Go.Proofs.Ytgiicendejgklaa

/- Contracts of the document's blank, leaf, leaves and some. -/
namespace Go.Proofs.Ytgiicendejgklaa
open Go.RowKit Go.Maps
end Go.Proofs.Ytgiicendejgklaa

/- The contract of the document's twice. -/
namespace Go.Proofs.Ytgiicendejgklaa
open Go.RowKit Go.Maps
end Go.Proofs.Ytgiicendejgklaa
