/- Texts joined: TrL TrM TrN. -/
import Derived.Test.YtgiicendejgklaaZ09
import Derived.Deep.CutRange
/- The contract of Add. -/
namespace Go.Proofs.Ytgiicendejgklaa
open Go.RowKit Go.Maps
end Go.Proofs.Ytgiicendejgklaa

/- The contract of Add, whatever comes of it; of New. -/
namespace Go.Proofs.Ytgiicendejgklaa
open Go.RowKit Go.Maps
end Go.Proofs.Ytgiicendejgklaa

/- The contract of Remove. -/
namespace Go.Proofs.Ytgiicendejgklaa
open Go.RowKit Go.Maps
end Go.Proofs.Ytgiicendejgklaa
