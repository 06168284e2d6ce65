/- Texts joined: TsD TsE. -/
import Derived.Test.YtgakjonplfbepaaTsB
import Derived.Test.YtgakjonplfbepaaZ05
import Derived.Test.YtgakjonplfbepaaZ06
/- The contracts of the document's Check and Size. -/
namespace Go.Proofs.Ytgakjonplfbepaa
open Go.RowKit Go.Maps
end Go.Proofs.Ytgakjonplfbepaa

/- The contracts of the document's Members and Find. -/
namespace Go.Proofs.Ytgakjonplfbepaa
open Go.RowKit Go.Maps
end Go.Proofs.Ytgakjonplfbepaa
