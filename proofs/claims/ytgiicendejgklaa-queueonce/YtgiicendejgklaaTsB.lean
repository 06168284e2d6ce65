/- The contract of the document's parent. -/
import Derived.Test.YtgiicendejgklaaZ05
import Derived.Test.YtgiicendejgklaaZ02
namespace Go.Proofs.Ytgiicendejgklaa
open Go.RowKit Go.Maps
end Go.Proofs.Ytgiicendejgklaa
