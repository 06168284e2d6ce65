/- The contract of the document's Add, where it is not refused. -/
import Derived.Test.YtaanacnloljlmaaGreatDoorZ15
import Derived.Test.YtaanacnloljlmaaGreatDoorIxRefD
namespace Go.Proofs.YtaanacnloljlmaaGreatDoor
open Go.RowKit Go.Maps

end Go.Proofs.YtaanacnloljlmaaGreatDoor
