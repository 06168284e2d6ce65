/- Texts joined: TrL TrM TrN. -/
import Derived.Test.YtnngpcijkhjdkaaZ09
import Derived.Deep.CutRange
/- The contract of Add. -/
namespace Go.Proofs.Ytnngpcijkhjdkaa
open Go.RowKit Go.Maps
end Go.Proofs.Ytnngpcijkhjdkaa

/- The contract of Add, whatever comes of it; of New. -/
namespace Go.Proofs.Ytnngpcijkhjdkaa
open Go.RowKit Go.Maps
end Go.Proofs.Ytnngpcijkhjdkaa

/- The contract of Remove. -/
namespace Go.Proofs.Ytnngpcijkhjdkaa
open Go.RowKit Go.Maps
end Go.Proofs.Ytnngpcijkhjdkaa
