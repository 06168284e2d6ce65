/- The contract of Add. -/
import Derived.Test.YtcbafeneaoaglaaGreatDoorBbL
import Derived.Deep.CutRange
namespace Go.Proofs.YtcbafeneaoaglaaGreatDoor
open Go.RowKit Go.Maps

def addR (T : List Nd) (m e p : Int) : List Nd := if addE T m e p = 0 then addT T m e p else []
def addA (T : List Nd) (m e p : Int) : Nat := if addE T m e p = 0 then fb T else 0
end Go.Proofs.YtcbafeneaoaglaaGreatDoor
