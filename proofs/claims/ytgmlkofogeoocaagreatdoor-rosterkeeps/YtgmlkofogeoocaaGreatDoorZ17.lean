/- Texts joined: TeA LgE. -/
import Derived.Test.YtgmlkofogeoocaaGreatDoorZ12
import Derived.Test.YtgmlkofogeoocaaGreatDoorZ16
import Derived.Test.YtgmlkofogeoocaaGreatDoorZ04
/- The contracts of SameNodes and SameTree, of two trees that read alike; the document's free and rising. -/
namespace Go.Proofs.YtgmlkofogeoocaaGreatDoor
open Go.RowKit Go.Maps
end Go.Proofs.YtgmlkofogeoocaaGreatDoor

/- SameCommit, SameCommits, SameLog, SameLogs of equal ones. -/
namespace Go.Proofs.YtgmlkofogeoocaaGreatDoor
open Go.RowKit Go.Maps
end Go.Proofs.YtgmlkofogeoocaaGreatDoor
