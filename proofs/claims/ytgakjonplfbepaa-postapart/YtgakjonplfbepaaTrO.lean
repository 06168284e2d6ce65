/- The contract of Remove, whatever comes of it; of New. -/
import Derived.Test.YtgakjonplfbepaaZ10
namespace Go.Proofs.Ytgakjonplfbepaa
open Go.RowKit Go.Maps
end Go.Proofs.Ytgakjonplfbepaa
