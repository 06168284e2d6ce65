/- Texts joined: TeA LgE. -/
import Derived.Test.YtlalcianaifogaaGreatDoorZ12
import Derived.Test.YtlalcianaifogaaGreatDoorZ16
import Derived.Test.YtlalcianaifogaaGreatDoorZ04
/- The contracts of SameNodes and SameTree, of two trees that read alike; the document's free and rising. -/
namespace Go.Proofs.YtlalcianaifogaaGreatDoor
open Go.RowKit Go.Maps
end Go.Proofs.YtlalcianaifogaaGreatDoor

/- SameCommit, SameCommits, SameLog, SameLogs of equal ones. -/
namespace Go.Proofs.YtlalcianaifogaaGreatDoor
open Go.RowKit Go.Maps
end Go.Proofs.YtlalcianaifogaaGreatDoor
