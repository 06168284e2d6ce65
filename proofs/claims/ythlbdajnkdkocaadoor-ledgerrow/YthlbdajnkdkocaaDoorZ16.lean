/- Texts joined: TsB LgD. -/
import Derived.Test.YthlbdajnkdkocaaDoorZ04
import Derived.Test.YthlbdajnkdkocaaDoorZ02
import Derived.Test.YthlbdajnkdkocaaDoorZ03
/- The contract of the document's parent. -/
namespace Go.Proofs.YthlbdajnkdkocaaDoor
open Go.RowKit Go.Maps
end Go.Proofs.YthlbdajnkdkocaaDoor

/- SameAdds, SameSeals, SameJoins of equal rows. -/
namespace Go.Proofs.YthlbdajnkdkocaaDoor
open Go.RowKit Go.Maps
end Go.Proofs.YthlbdajnkdkocaaDoor
