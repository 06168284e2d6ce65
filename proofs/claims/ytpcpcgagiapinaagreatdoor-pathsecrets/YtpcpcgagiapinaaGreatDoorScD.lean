/- The contracts of sched.Next and sched.From, whatever is asked. -/
import Derived.Test.YtpcpcgagiapinaaGreatDoorZ18
namespace Go.Proofs.YtpcpcgagiapinaaGreatDoor.Tn
open Go.RowKit Go.Maps
end Go.Proofs.YtpcpcgagiapinaaGreatDoor.Tn
