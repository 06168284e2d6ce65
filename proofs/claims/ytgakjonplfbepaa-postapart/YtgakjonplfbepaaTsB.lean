/- The contract of the document's parent. -/
import Derived.Test.YtgakjonplfbepaaZ05
import Derived.Test.YtgakjonplfbepaaZ02
namespace Go.Proofs.Ytgakjonplfbepaa
open Go.RowKit Go.Maps
end Go.Proofs.Ytgakjonplfbepaa
