/- Texts joined: TsD TsE. -/
import Derived.Test.YthlbdajnkdkocaaDoorZ16
import Derived.Test.YthlbdajnkdkocaaDoorZ04
import Derived.Test.YthlbdajnkdkocaaDoorZ05
/- The contracts of the document's Check and Size. -/
namespace Go.Proofs.YthlbdajnkdkocaaDoor
open Go.RowKit Go.Maps
end Go.Proofs.YthlbdajnkdkocaaDoor

/- The contracts of the document's Members and Find. -/
namespace Go.Proofs.YthlbdajnkdkocaaDoor
open Go.RowKit Go.Maps
end Go.Proofs.YthlbdajnkdkocaaDoor
