/- Texts joined: TeA LgE. -/
import Derived.Test.YtgiicendejgklaaZ13
import Derived.Test.YtgiicendejgklaaZ16
import Derived.Test.YtgiicendejgklaaZ05
/- The contracts of SameNodes and SameTree, of two trees that read alike; the document's free and rising. -/
namespace Go.Proofs.Ytgiicendejgklaa
open Go.RowKit Go.Maps
end Go.Proofs.Ytgiicendejgklaa

/- SameCommit, SameCommits, SameLog, SameLogs of equal ones. -/
namespace Go.Proofs.Ytgiicendejgklaa
open Go.RowKit Go.Maps
end Go.Proofs.Ytgiicendejgklaa
