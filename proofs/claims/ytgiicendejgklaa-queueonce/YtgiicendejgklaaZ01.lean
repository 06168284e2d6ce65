/- Texts joined: IxA IxA2. -/
import Derived.Test.YtgiicendejgklaaProg
import Derived.Test.YtgiicendejgklaaIxBase
/- Contracts of the small functions of package index: Level and what leans on it. -/
namespace Go.Proofs.Ytgiicendejgklaa
open Go.RowKit
def Tab (w : World) : Prop := TabAt 0 Lib.deBruijn64tab w
end Go.Proofs.Ytgiicendejgklaa

/- Contracts of the functions of package index that answer numbers and flags. -/
namespace Go.Proofs.Ytgiicendejgklaa
open Go.RowKit
end Go.Proofs.Ytgiicendejgklaa
