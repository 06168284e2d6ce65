/- Texts joined: TrL TrM TrN. -/
import Derived.Test.YthlbdajnkdkocaaDoorZ08
import Derived.Deep.CutRange
/- The contract of Add. -/
namespace Go.Proofs.YthlbdajnkdkocaaDoor
open Go.RowKit Go.Maps
end Go.Proofs.YthlbdajnkdkocaaDoor

/- The contract of Add, whatever comes of it; of New. -/
namespace Go.Proofs.YthlbdajnkdkocaaDoor
open Go.RowKit Go.Maps
end Go.Proofs.YthlbdajnkdkocaaDoor

/- The contract of Remove. -/
namespace Go.Proofs.YthlbdajnkdkocaaDoor
open Go.RowKit Go.Maps
end Go.Proofs.YthlbdajnkdkocaaDoor
