/- Texts joined: IxA IxA2. -/
import Derived.Test.YtnngpcijkhjdkaaProg
import Derived.Test.YtnngpcijkhjdkaaIxBase
/- Contracts of the small functions of package index: Level and what leans on it. -/
namespace Go.Proofs.Ytnngpcijkhjdkaa
open Go.RowKit
def Tab (w : World) : Prop := TabAt 0 Lib.deBruijn64tab w
end Go.Proofs.Ytnngpcijkhjdkaa

/- Contracts of the functions of package index that answer numbers and flags. -/
namespace Go.Proofs.Ytnngpcijkhjdkaa
open Go.RowKit
end Go.Proofs.Ytnngpcijkhjdkaa
