/- Texts joined: TsD TsE. -/
import Derived.Test.YtgiicendejgklaaTsB
import Derived.Test.YtgiicendejgklaaZ05
import Derived.Test.YtgiicendejgklaaZ06
/- The contracts of the document's Check and Size. -/
namespace Go.Proofs.Ytgiicendejgklaa
open Go.RowKit Go.Maps
end Go.Proofs.Ytgiicendejgklaa

/- The contracts of the document's Members and Find. -/
namespace Go.Proofs.Ytgiicendejgklaa
open Go.RowKit Go.Maps
end Go.Proofs.Ytgiicendejgklaa
