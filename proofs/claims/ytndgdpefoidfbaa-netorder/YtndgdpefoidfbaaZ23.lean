/- Texts joined: QuP QuQ QuI. -/
import Derived.Test.YtndgdpefoidfbaaQuO
import Derived.Deep.RegionHeld3
import Derived.Test.YtndgdpefoidfbaaZ19
/- The link of a peer, among copies of links (linked). mkQuP.py writes it. -/
namespace Go.Proofs.Ytndgdpefoidfbaa
open Go.RowKit Go.Maps
end Go.Proofs.Ytndgdpefoidfbaa

/- Links that may be, with one more; a link of a row has one feed more. mkQuP.py writes it. -/
namespace Go.Proofs.Ytndgdpefoidfbaa
open Go.RowKit Go.Maps
end Go.Proofs.Ytndgdpefoidfbaa

/- How a method of a pile behind an interface is found. No walk is in this text. -/
namespace Go.Proofs.Ytndgdpefoidfbaa
open Go.RowKit Go.Maps
end Go.Proofs.Ytndgdpefoidfbaa
