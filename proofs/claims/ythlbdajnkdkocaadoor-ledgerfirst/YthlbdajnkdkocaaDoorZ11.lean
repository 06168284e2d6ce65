/- Texts joined: IxKin IxRefC. -/
import Derived.Test.YthlbdajnkdkocaaDoorZ02
/- Plain mathematics of a node and its children. -/
namespace Go.Proofs.YthlbdajnkdkocaaDoor
open Go.RowKit
end Go.Proofs.YthlbdajnkdkocaaDoor

/- Contracts of the document's own answers for layer 2: parents, siblings, and who is below whom. -/
namespace Go.Proofs.YthlbdajnkdkocaaDoor
open Go.RowKit
end Go.Proofs.YthlbdajnkdkocaaDoor
