/- Texts joined: IxKin IxRefC. -/
import Derived.Test.YtgakjonplfbepaaZ02
/- Plain mathematics of a node and its children. -/
namespace Go.Proofs.Ytgakjonplfbepaa
open Go.RowKit
end Go.Proofs.Ytgakjonplfbepaa

/- Contracts of the document's own answers for layer 2: parents, siblings, and who is below whom. -/
namespace Go.Proofs.Ytgakjonplfbepaa
open Go.RowKit
end Go.Proofs.Ytgakjonplfbepaa
