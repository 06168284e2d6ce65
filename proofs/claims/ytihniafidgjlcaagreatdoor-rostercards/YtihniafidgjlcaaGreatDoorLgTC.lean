/- TwinCommit: a commit's copy, its lists with marks behind them. -/
import Derived.Test.YtihniafidgjlcaaGreatDoorZ23
import Derived.Test.YtihniafidgjlcaaGreatDoorZ24
namespace Go.Proofs.YtihniafidgjlcaaGreatDoor
open Go.RowKit Go.Maps
theorem TwR.keep {c : Nat} {t : TypeId} {w w' : World} {g : Nat} {l : List (List Int)} (h : TwR c t w g l) (hb : w'.heap[g]? = w.heap[g]?) : TwR c t w' g l := by unfold TwR at h ⊢; rw [hb]; exact h
theorem TwR.lt {c : Nat} {t : TypeId} {w : World} {g : Nat} {l : List (List Int)} (h : TwR c t w g l) : g < w.heap.size := lt_of_blk h
end Go.Proofs.YtihniafidgjlcaaGreatDoor
