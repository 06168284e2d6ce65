/- Copies of lists of numbers with marks behind them: TwinNumbers and LeftNumbers of phratrylaw01, behind layer 8. -/
import Derived.Test.YtpcpcgagiapinaaGreatDoorZ04
import Derived.Test.YtpcpcgagiapinaaGreatDoorZ02
import Derived.Laws.Tables
import Derived.Laws.CopyRow
import Derived.Laws.IdiomCopy
namespace Go.Proofs.YtpcpcgagiapinaaGreatDoor
open Go.RowKit Go.Maps
theorem frozen_of_blk0 {w : World} {b : Nat} {cs : Array Value} {t : TypeId} (h : w.heap[b]? = some (.cells cs t (0, 0))) (o : Nat) : w.frozen? ⟨b, o, none⟩ = false := by simp [World.frozen?, h]
def tw (l : List Int) (x y : Int) : Array Value := ((l.map fun z => Value.int .i64 z) ++ [Value.int .i64 x, Value.int .i64 y]).toArray
end Go.Proofs.YtpcpcgagiapinaaGreatDoor
