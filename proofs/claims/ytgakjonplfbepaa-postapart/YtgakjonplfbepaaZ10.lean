/- Texts joined: TrL TrM TrN. -/
import Derived.Test.YtgakjonplfbepaaZ09
import Derived.Deep.CutRange
/- The contract of Add. -/
namespace Go.Proofs.Ytgakjonplfbepaa
open Go.RowKit Go.Maps
end Go.Proofs.Ytgakjonplfbepaa

/- The contract of Add, whatever comes of it; of New. -/
namespace Go.Proofs.Ytgakjonplfbepaa
open Go.RowKit Go.Maps
end Go.Proofs.Ytgakjonplfbepaa

/- The contract of Remove. -/
namespace Go.Proofs.Ytgakjonplfbepaa
open Go.RowKit Go.Maps
end Go.Proofs.Ytgakjonplfbepaa
