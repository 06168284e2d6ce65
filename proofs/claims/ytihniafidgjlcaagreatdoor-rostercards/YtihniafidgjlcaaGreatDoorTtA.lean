/- Copies of lists of numbers with marks behind them: TwinNumbers and LeftNumbers of phratrylaw01, behind layer 8. -/
import Derived.Test.YtihniafidgjlcaaGreatDoorZ04
import Derived.Test.YtihniafidgjlcaaGreatDoorZ02
import Derived.Laws.Tables
import Derived.Laws.CopyRow
import Derived.Laws.IdiomCopy
namespace Go.Proofs.YtihniafidgjlcaaGreatDoor
open Go.RowKit Go.Maps
theorem frozen_of_blk0 {w : World} {b : Nat} {cs : Array Value} {t : TypeId} (h : w.heap[b]? = some (.cells cs t (0, 0))) (o : Nat) : w.frozen? ⟨b, o, none⟩ = false := by simp [World.frozen?, h]
def mkI (n : Nat) : Int := -1000 - (n : Int)
end Go.Proofs.YtihniafidgjlcaaGreatDoor
