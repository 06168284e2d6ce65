/- Texts joined: IxKin IxRefC. -/
import Derived.Test.YtlalcianaifogaaGreatDoorZ02
/- Plain mathematics of a node and its children. -/
namespace Go.Proofs.YtlalcianaifogaaGreatDoor
open Go.RowKit
end Go.Proofs.YtlalcianaifogaaGreatDoor

/- Contracts of the document's own answers for layer 2: parents, siblings, and who is below whom. -/
namespace Go.Proofs.YtlalcianaifogaaGreatDoor
open Go.RowKit
end Go.Proofs.YtlalcianaifogaaGreatDoor
