/- Texts joined: IxKin IxRefC. -/
import Derived.Test.YtndgdpefoidfbaaZ02
/- Plain mathematics of a node and its children. -/
namespace Go.Proofs.Ytndgdpefoidfbaa
open Go.RowKit
end Go.Proofs.Ytndgdpefoidfbaa

/- Contracts of the document's own answers for layer 2: parents, siblings, and who is below whom. -/
namespace Go.Proofs.Ytndgdpefoidfbaa
open Go.RowKit
end Go.Proofs.Ytndgdpefoidfbaa
