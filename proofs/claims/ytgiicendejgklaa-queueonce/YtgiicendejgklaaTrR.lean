/- The contract of alive, the end of every law of layer 8. -/
import Derived.Test.YtgiicendejgklaaZ11
namespace Go.Proofs.Ytgiicendejgklaa
open Go.RowKit Go.Maps
end Go.Proofs.Ytgiicendejgklaa
