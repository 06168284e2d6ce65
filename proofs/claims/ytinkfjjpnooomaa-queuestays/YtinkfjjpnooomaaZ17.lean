/- Texts joined: TeA LgE. -/
import Derived.Test.YtinkfjjpnooomaaZ13
import Derived.Test.YtinkfjjpnooomaaZ16
import Derived.Test.YtinkfjjpnooomaaZ05
/- The contracts of SameNodes and SameTree, of two trees that read alike; the document's free and rising. -/
namespace Go.Proofs.Ytinkfjjpnooomaa
open Go.RowKit Go.Maps
end Go.Proofs.Ytinkfjjpnooomaa

/- SameCommit, SameCommits, SameLog, SameLogs of equal ones. -/
namespace Go.Proofs.Ytinkfjjpnooomaa
open Go.RowKit Go.Maps
end Go.Proofs.Ytinkfjjpnooomaa
