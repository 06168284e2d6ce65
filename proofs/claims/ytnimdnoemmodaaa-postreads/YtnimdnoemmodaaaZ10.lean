/- Texts joined: TrL TrM TrN. -/
import Derived.Test.YtnimdnoemmodaaaZ09
import Derived.Deep.CutRange
/- The contract of Add. -/
namespace Go.Proofs.Ytnimdnoemmodaaa
open Go.RowKit Go.Maps
end Go.Proofs.Ytnimdnoemmodaaa

/- The contract of Add, whatever comes of it; of New. -/
namespace Go.Proofs.Ytnimdnoemmodaaa
open Go.RowKit Go.Maps
end Go.Proofs.Ytnimdnoemmodaaa

/- The contract of Remove. -/
namespace Go.Proofs.Ytnimdnoemmodaaa
open Go.RowKit Go.Maps
end Go.Proofs.Ytnimdnoemmodaaa
