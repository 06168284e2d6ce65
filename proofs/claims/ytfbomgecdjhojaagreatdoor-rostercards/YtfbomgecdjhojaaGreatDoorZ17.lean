/- Texts joined: TeA LgE. -/
import Derived.Test.YtfbomgecdjhojaaGreatDoorZ11
import Derived.Test.YtfbomgecdjhojaaGreatDoorZ16
import Derived.Test.YtfbomgecdjhojaaGreatDoorZ15
/- The contracts of SameNodes and SameTree, of two trees that read alike; the document's free and rising. -/
namespace Go.Proofs.YtfbomgecdjhojaaGreatDoor
open Go.RowKit Go.Maps
end Go.Proofs.YtfbomgecdjhojaaGreatDoor

/- SameCommit, SameCommits, SameLog, SameLogs of equal ones. -/
namespace Go.Proofs.YtfbomgecdjhojaaGreatDoor
open Go.RowKit Go.Maps
end Go.Proofs.YtfbomgecdjhojaaGreatDoor
