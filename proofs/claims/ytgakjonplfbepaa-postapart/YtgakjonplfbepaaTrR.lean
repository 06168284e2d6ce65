/- The contract of alive, the end of every law of layer 8. -/
import Derived.Test.YtgakjonplfbepaaZ11
namespace Go.Proofs.Ytgakjonplfbepaa
open Go.RowKit Go.Maps
end Go.Proofs.Ytgakjonplfbepaa
