/- Texts joined: TsD TsE. -/
import Derived.Test.YtinkfjjpnooomaaTsB
import Derived.Test.YtinkfjjpnooomaaZ05
import Derived.Test.YtinkfjjpnooomaaZ06
/- The contracts of the document's Check and Size. -/
namespace Go.Proofs.Ytinkfjjpnooomaa
open Go.RowKit Go.Maps
end Go.Proofs.Ytinkfjjpnooomaa

/- The contracts of the document's Members and Find. -/
namespace Go.Proofs.Ytinkfjjpnooomaa
open Go.RowKit Go.Maps
end Go.Proofs.Ytinkfjjpnooomaa
