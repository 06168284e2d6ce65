/- The contract of Remove, whatever comes of it; of New. -/
import Derived.Test.YtnngpcijkhjdkaaZ10
namespace Go.Proofs.Ytnngpcijkhjdkaa
open Go.RowKit Go.Maps
end Go.Proofs.Ytnngpcijkhjdkaa
