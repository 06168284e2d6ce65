/- Texts joined: IxA IxA2. -/
import Derived.Test.YtnimdnoemmodaaaProg
import Derived.Test.YtnimdnoemmodaaaIxBase
/- Contracts of the small functions of package index: Level and what leans on it. -/
namespace Go.Proofs.Ytnimdnoemmodaaa
open Go.RowKit
def Tab (w : World) : Prop := TabAt 0 Lib.deBruijn64tab w
end Go.Proofs.Ytnimdnoemmodaaa

/- Contracts of the functions of package index that answer numbers and flags. -/
namespace Go.Proofs.Ytnimdnoemmodaaa
open Go.RowKit
end Go.Proofs.Ytnimdnoemmodaaa
