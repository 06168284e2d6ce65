/- Texts joined: QuFn QuFm. -/
import Derived.Test.YtgiicendejgklaaZ04
import Derived.Test.YtgiicendejgklaaZ29
/- A mail, opened off what a caller hands in (out of PoFrame). mkQuFm.py writes it. -/
namespace Go.Proofs.Ytgiicendejgklaa
open Go.ChangeShapes Go.WideShapes Go.ChangeAt Go.RowKit Go.Joins Go.Deep Go.Maps
end Go.Proofs.Ytgiicendejgklaa

/- Feeds, earlies, links, packets, opened off what a caller hands in. mkQuFm.py writes it. -/
namespace Go.Proofs.Ytgiicendejgklaa
open Go.ChangeShapes Go.WideShapes Go.ChangeAt Go.RowKit Go.Joins Go.Deep Go.Maps
end Go.Proofs.Ytgiicendejgklaa
