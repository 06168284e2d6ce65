/- Texts joined: IxKin IxRefC. -/
import Derived.Test.YtnngpcijkhjdkaaZ02
/- Plain mathematics of a node and its children. -/
namespace Go.Proofs.Ytnngpcijkhjdkaa
open Go.RowKit
end Go.Proofs.Ytnngpcijkhjdkaa

/- Contracts of the document's own answers for layer 2: parents, siblings, and who is below whom. -/
namespace Go.Proofs.Ytnngpcijkhjdkaa
open Go.RowKit
end Go.Proofs.Ytnngpcijkhjdkaa
