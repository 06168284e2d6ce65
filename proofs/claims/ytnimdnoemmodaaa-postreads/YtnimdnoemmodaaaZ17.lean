/- Texts joined: TsD TsE. -/
import Derived.Test.YtnimdnoemmodaaaTsB
import Derived.Test.YtnimdnoemmodaaaZ05
import Derived.Test.YtnimdnoemmodaaaZ06
/- The contracts of the document's Check and Size. -/
namespace Go.Proofs.Ytnimdnoemmodaaa
open Go.RowKit Go.Maps
end Go.Proofs.Ytnimdnoemmodaaa

/- The contracts of the document's Members and Find. -/
namespace Go.Proofs.Ytnimdnoemmodaaa
open Go.RowKit Go.Maps
end Go.Proofs.Ytnimdnoemmodaaa
