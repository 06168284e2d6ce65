/- The contract of Remove, whatever comes of it; of New. -/
import Derived.Test.YthlbdajnkdkocaaDoorZ09
namespace Go.Proofs.YthlbdajnkdkocaaDoor
open Go.RowKit Go.Maps
end Go.Proofs.YthlbdajnkdkocaaDoor
