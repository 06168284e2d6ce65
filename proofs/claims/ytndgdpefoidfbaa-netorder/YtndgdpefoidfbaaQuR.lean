/- Something is to be told to a peer (Push). mkQuP.py writes it. -/
import Derived.Test.YtndgdpefoidfbaaZ23
import Derived.Deep.RegionHeld3
namespace Go.Proofs.Ytndgdpefoidfbaa
open Go.RowKit Go.Maps
theorem infoFdS3 : (Try.prog.info? 42).map (·.size) = some 53 := by kernel_rfl
end Go.Proofs.Ytndgdpefoidfbaa
