/- The contract of the document's parent. -/
import Derived.Test.YtnimdnoemmodaaaZ05
import Derived.Test.YtnimdnoemmodaaaZ02
namespace Go.Proofs.Ytnimdnoemmodaaa
open Go.RowKit Go.Maps
end Go.Proofs.Ytnimdnoemmodaaa
