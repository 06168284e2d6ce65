/- Texts joined: IxKin IxRefC. -/
import Derived.Test.YtgmlkofogeoocaaGreatDoorZ02
/- Plain mathematics of a node and its children. -/
namespace Go.Proofs.YtgmlkofogeoocaaGreatDoor
open Go.RowKit
end Go.Proofs.YtgmlkofogeoocaaGreatDoor

/- Contracts of the document's own answers for layer 2: parents, siblings, and who is below whom. -/
namespace Go.Proofs.YtgmlkofogeoocaaGreatDoor
open Go.RowKit
end Go.Proofs.YtgmlkofogeoocaaGreatDoor
