/- The contract of alive, the end of every law of layer 8. -/
import Derived.Test.YthlbdajnkdkocaaDoorZ10
namespace Go.Proofs.YthlbdajnkdkocaaDoor
open Go.RowKit Go.Maps
end Go.Proofs.YthlbdajnkdkocaaDoor
