/- The contract of Remove, whatever comes of it; of New. -/
import Derived.Test.YtcbafeneaoaglaaDoorZ10
namespace Go.Proofs.YtcbafeneaoaglaaDoor
open Go.RowKit Go.Maps

end Go.Proofs.YtcbafeneaoaglaaDoor
