/- The contract of Remove, whatever comes of it; of New. -/
import Derived.Test.YtnimdnoemmodaaaZ10
namespace Go.Proofs.Ytnimdnoemmodaaa
open Go.RowKit Go.Maps
end Go.Proofs.Ytnimdnoemmodaaa
