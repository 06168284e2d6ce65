/- Texts joined: IxKin IxRefC. -/
import Derived.Test.YtgiicendejgklaaZ02
/- Plain mathematics of a node and its children. -/
namespace Go.Proofs.Ytgiicendejgklaa
open Go.RowKit
end Go.Proofs.Ytgiicendejgklaa

/- Contracts of the document's own answers for layer 2: parents, siblings, and who is below whom. -/
namespace Go.Proofs.Ytgiicendejgklaa
open Go.RowKit
end Go.Proofs.Ytgiicendejgklaa
