/- The contract of the document's parent. -/
import Derived.Test.YtinkfjjpnooomaaZ05
import Derived.Test.YtinkfjjpnooomaaZ02
namespace Go.Proofs.Ytinkfjjpnooomaa
open Go.RowKit Go.Maps
end Go.Proofs.Ytinkfjjpnooomaa
