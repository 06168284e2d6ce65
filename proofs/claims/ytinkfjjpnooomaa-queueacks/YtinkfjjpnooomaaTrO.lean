/- The contract of Remove, whatever comes of it; of New. -/
import Derived.Test.YtinkfjjpnooomaaZ10
namespace Go.Proofs.Ytinkfjjpnooomaa
open Go.RowKit Go.Maps
end Go.Proofs.Ytinkfjjpnooomaa
