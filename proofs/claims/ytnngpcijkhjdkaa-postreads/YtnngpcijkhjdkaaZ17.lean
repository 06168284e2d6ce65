/- Texts joined: TsD TsE. -/
import Derived.Test.YtnngpcijkhjdkaaTsB
import Derived.Test.YtnngpcijkhjdkaaZ05
import Derived.Test.YtnngpcijkhjdkaaZ06
/- The contracts of the document's Check and Size. -/
namespace Go.Proofs.Ytnngpcijkhjdkaa
open Go.RowKit Go.Maps
end Go.Proofs.Ytnngpcijkhjdkaa

/- The contracts of the document's Members and Find. -/
namespace Go.Proofs.Ytnngpcijkhjdkaa
open Go.RowKit Go.Maps
end Go.Proofs.Ytnngpcijkhjdkaa
