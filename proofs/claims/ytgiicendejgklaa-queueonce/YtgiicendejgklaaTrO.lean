/- The contract of Remove, whatever comes of it; of New. -/
import Derived.Test.YtgiicendejgklaaZ10
namespace Go.Proofs.Ytgiicendejgklaa
open Go.RowKit Go.Maps
end Go.Proofs.Ytgiicendejgklaa
