/- Texts joined: AcU AcV AcW AcX. -/
import Derived.Test.YtokdflbajnecpaaZ08
import Derived.Test.YtokdflbajnecpaaZ06
import Derived.Laws.CopyRow
import Derived.Laws.IdiomCopy
/- Copies of lists with marks behind them: Twin.. and Left.. of phratrylaw01, for lists of numbers, of up to 2^18. -/
namespace Go.Proofs.Ytokdflbajnecpaa.Tn.Ax
open Go.RowKit Go.Maps
def mk (n : Nat) : Int := -1000 - (n : Int)
def tw (l : List Int) (x y : Int) : Array Value := ((l.map fun z => Value.int .i64 z) ++ [Value.int .i64 x, Value.int .i64 y]).toArray
def Twint (w : World) (g : Nat) (l : List Int) : Prop := w.heap[g]? = some (.cells (tw l (mk l.length) (mk (l.length + 1))) 3 (0, 0))
end Go.Proofs.Ytokdflbajnecpaa.Tn.Ax

/- Copies of lists of those who come in, with marks behind them: TwinAdds, LeftAdds, SameAdds. -/
namespace Go.Proofs.Ytokdflbajnecpaa.Tn.Ax
open Go.RowKit Go.Maps
def adC (a : Ad) : List Value := [.int .i64 a.m, .int .i64 a.e, .int .i64 a.p]
def mkA (n : Nat) : Ad := ⟨mk n, 0, 0⟩
def twA (l : List Ad) (x y : Ad) : Array Value := (l.flatMap adC ++ (adC x ++ adC y)).toArray
end Go.Proofs.Ytokdflbajnecpaa.Tn.Ax

/- markAdd, isAdd, SameAdds, TwinAdds, LeftAdds. -/
namespace Go.Proofs.Ytokdflbajnecpaa.Tn.Ax
open Go.RowKit Go.Maps
end Go.Proofs.Ytokdflbajnecpaa.Tn.Ax

/- TwinAdds, LeftAdds. -/
namespace Go.Proofs.Ytokdflbajnecpaa.Tn.Ax
open Go.RowKit Go.Maps
def TwA (w : World) (g : Nat) (l : List Ad) : Prop := w.heap[g]? = some (.cells (twA l (mkA l.length) (mkA (l.length + 1))) 65 (0, 0))
end Go.Proofs.Ytokdflbajnecpaa.Tn.Ax
