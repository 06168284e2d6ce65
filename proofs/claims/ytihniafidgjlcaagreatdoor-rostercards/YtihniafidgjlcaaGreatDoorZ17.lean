/- Texts joined: TeA LgE. -/
import Derived.Test.YtihniafidgjlcaaGreatDoorZ11
import Derived.Test.YtihniafidgjlcaaGreatDoorZ16
import Derived.Test.YtihniafidgjlcaaGreatDoorZ15
/- The contracts of SameNodes and SameTree, of two trees that read alike; the document's free and rising. -/
namespace Go.Proofs.YtihniafidgjlcaaGreatDoor
open Go.RowKit Go.Maps
end Go.Proofs.YtihniafidgjlcaaGreatDoor

/- SameCommit, SameCommits, SameLog, SameLogs of equal ones. -/
namespace Go.Proofs.YtihniafidgjlcaaGreatDoor
open Go.RowKit Go.Maps
end Go.Proofs.YtihniafidgjlcaaGreatDoor
