/- Texts joined: TrL TrM TrN. -/
import Derived.Test.YtinkfjjpnooomaaZ09
import Derived.Deep.CutRange
/- The contract of Add. -/
namespace Go.Proofs.Ytinkfjjpnooomaa
open Go.RowKit Go.Maps
end Go.Proofs.Ytinkfjjpnooomaa

/- The contract of Add, whatever comes of it; of New. -/
namespace Go.Proofs.Ytinkfjjpnooomaa
open Go.RowKit Go.Maps
end Go.Proofs.Ytinkfjjpnooomaa

/- The contract of Remove. -/
namespace Go.Proofs.Ytinkfjjpnooomaa
open Go.RowKit Go.Maps
end Go.Proofs.Ytinkfjjpnooomaa
