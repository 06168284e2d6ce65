/- Texts joined: IxKin IxRefC. -/
import Derived.Test.YtnimdnoemmodaaaZ02
/- Plain mathematics of a node and its children. -/
namespace Go.Proofs.Ytnimdnoemmodaaa
open Go.RowKit
end Go.Proofs.Ytnimdnoemmodaaa

/- Contracts of the document's own answers for layer 2: parents, siblings, and who is below whom. -/
namespace Go.Proofs.Ytnimdnoemmodaaa
open Go.RowKit
end Go.Proofs.Ytnimdnoemmodaaa
