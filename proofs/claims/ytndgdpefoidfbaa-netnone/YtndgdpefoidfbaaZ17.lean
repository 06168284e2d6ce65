/- Texts joined: TeA LgE. -/
import Derived.Test.YtndgdpefoidfbaaZ13
import Derived.Test.YtndgdpefoidfbaaZ16
import Derived.Test.YtndgdpefoidfbaaZ05
/- The contracts of SameNodes and SameTree, of two trees that read alike; the document's free and rising. -/
namespace Go.Proofs.Ytndgdpefoidfbaa
open Go.RowKit Go.Maps
end Go.Proofs.Ytndgdpefoidfbaa

/- SameCommit, SameCommits, SameLog, SameLogs of equal ones. -/
namespace Go.Proofs.Ytndgdpefoidfbaa
open Go.RowKit Go.Maps
end Go.Proofs.Ytndgdpefoidfbaa
