/- The contract of alive, the end of every law of layer 8. -/
import Derived.Test.YtinkfjjpnooomaaZ11
namespace Go.Proofs.Ytinkfjjpnooomaa
open Go.RowKit Go.Maps
end Go.Proofs.Ytinkfjjpnooomaa
