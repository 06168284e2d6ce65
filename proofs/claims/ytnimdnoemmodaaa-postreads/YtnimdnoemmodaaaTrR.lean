/- The contract of alive, the end of every law of layer 8. -/
import Derived.Test.YtnimdnoemmodaaaZ11
namespace Go.Proofs.Ytnimdnoemmodaaa
open Go.RowKit Go.Maps
end Go.Proofs.Ytnimdnoemmodaaa
