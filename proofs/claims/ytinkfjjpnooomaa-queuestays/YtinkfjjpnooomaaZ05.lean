/- Texts joined: TrC LgD TsA TsC. -/
import Derived.Test.YtinkfjjpnooomaaZ03
/- Contracts of unmergedMayBe and nodeMayBe. -/
namespace Go.Proofs.Ytinkfjjpnooomaa
open Go.RowKit Go.Maps
end Go.Proofs.Ytinkfjjpnooomaa

/- SameAdds, SameSeals, SameJoins of equal rows. -/
namespace Go.Proofs.Ytinkfjjpnooomaa
open Go.RowKit Go.Maps
end Go.Proofs.Ytinkfjjpnooomaa

/- Contracts of the document's blank, leaf, leaves and some. -/
namespace Go.Proofs.Ytinkfjjpnooomaa
open Go.RowKit Go.Maps
end Go.Proofs.Ytinkfjjpnooomaa

/- The contract of the document's twice. -/
namespace Go.Proofs.Ytinkfjjpnooomaa
open Go.RowKit Go.Maps
end Go.Proofs.Ytinkfjjpnooomaa
