/- Texts joined: PoS QuPt. -/
import Derived.Test.YtgiicendejgklaaZ15
import Derived.Test.YtgiicendejgklaaZ17
import Derived.Deep.MidRow
import Derived.Test.YtgiicendejgklaaZ13
/- SameFace, SameMail, SameMails, SameBox of equal ones. -/
namespace Go.Proofs.Ytgiicendejgklaa
open Go.RowKit Go.Maps
end Go.Proofs.Ytgiicendejgklaa

/- How great a mail is: MailSize (out of PoT). mkQuLs.py writes it. -/
namespace Go.Proofs.Ytgiicendejgklaa
open Go.RowKit Go.Maps
end Go.Proofs.Ytgiicendejgklaa
