/- Texts joined: QuRa QuRb QuRc QuRd QuRe QuRg QuRh. -/
import Derived.Test.YtndgdpefoidfbaaQuZ
import Derived.Test.YtndgdpefoidfbaaZ27
/- What came is not wanted (receive). mkQuRa.py writes it. -/
namespace Go.Proofs.Ytndgdpefoidfbaa
open Go.RowKit Go.Maps
end Go.Proofs.Ytndgdpefoidfbaa

/- The loop of receive: what holds at each round, and what a round makes of it. -/
namespace Go.Proofs.Ytndgdpefoidfbaa
open Go.RowKit Go.Maps
end Go.Proofs.Ytndgdpefoidfbaa

/- What is told and what is kept of what stands in order (runE), plainly. -/
namespace Go.Proofs.Ytndgdpefoidfbaa
open Go.RowKit Go.Maps
end Go.Proofs.Ytndgdpefoidfbaa

/- Something comes among what rises: its place; told and kept, in memory. -/
namespace Go.Proofs.Ytndgdpefoidfbaa
open Go.RowKit Go.Maps
end Go.Proofs.Ytndgdpefoidfbaa

/- What a pile points at: which early it is. -/
namespace Go.Proofs.Ytndgdpefoidfbaa
open Go.RowKit Go.Maps
end Go.Proofs.Ytndgdpefoidfbaa

/- Where receive's loop begins. -/
namespace Go.Proofs.Ytndgdpefoidfbaa
open Go.RowKit Go.Maps
end Go.Proofs.Ytndgdpefoidfbaa

/- What receive tells and keeps, as lists that are read. No walk is in this text. -/
namespace Go.Proofs.Ytndgdpefoidfbaa
open Go.RowKit Go.Maps
end Go.Proofs.Ytndgdpefoidfbaa
