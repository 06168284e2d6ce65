/- Texts joined: IxKin IxRefC. -/
import Derived.Test.YtinkfjjpnooomaaZ02
/- Plain mathematics of a node and its children. -/
namespace Go.Proofs.Ytinkfjjpnooomaa
open Go.RowKit
end Go.Proofs.Ytinkfjjpnooomaa

/- Contracts of the document's own answers for layer 2: parents, siblings, and who is below whom. -/
namespace Go.Proofs.Ytinkfjjpnooomaa
open Go.RowKit
end Go.Proofs.Ytinkfjjpnooomaa
