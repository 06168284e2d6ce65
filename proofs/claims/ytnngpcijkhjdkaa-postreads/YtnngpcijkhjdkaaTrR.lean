/- The contract of alive, the end of every law of layer 8. -/
import Derived.Test.YtnngpcijkhjdkaaZ11
namespace Go.Proofs.Ytnngpcijkhjdkaa
open Go.RowKit Go.Maps
end Go.Proofs.Ytnngpcijkhjdkaa
