/- Texts joined: IxA IxA2. -/
import Derived.Test.YtgakjonplfbepaaProg
import Derived.Test.YtgakjonplfbepaaIxBase
/- Contracts of the small functions of package index: Level and what leans on it. -/
namespace Go.Proofs.Ytgakjonplfbepaa
open Go.RowKit
def Tab (w : World) : Prop := TabAt 0 Lib.deBruijn64tab w
end Go.Proofs.Ytgakjonplfbepaa

/- Contracts of the functions of package index that answer numbers and flags. -/
namespace Go.Proofs.Ytgakjonplfbepaa
open Go.RowKit
end Go.Proofs.Ytgakjonplfbepaa
