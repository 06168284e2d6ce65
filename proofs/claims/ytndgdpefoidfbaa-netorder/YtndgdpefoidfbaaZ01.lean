/- Texts joined: IxA IxA2. -/
import Derived.Test.YtndgdpefoidfbaaProg
import Derived.Test.YtndgdpefoidfbaaIxBase
/- Contracts of the small functions of package index: Level and what leans on it. -/
namespace Go.Proofs.Ytndgdpefoidfbaa
open Go.RowKit
def Tab (w : World) : Prop := TabAt 0 Lib.deBruijn64tab w
end Go.Proofs.Ytndgdpefoidfbaa

/- Contracts of the functions of package index that answer numbers and flags. -/
namespace Go.Proofs.Ytndgdpefoidfbaa
open Go.RowKit
end Go.Proofs.Ytndgdpefoidfbaa
