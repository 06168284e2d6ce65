/- The contract of Remove, whatever comes of it; of New. -/
import Derived.Test.YtcbafeneaoaglaaGreatDoorZ10
namespace Go.Proofs.YtcbafeneaoaglaaGreatDoor
open Go.RowKit Go.Maps

end Go.Proofs.YtcbafeneaoaglaaGreatDoor
