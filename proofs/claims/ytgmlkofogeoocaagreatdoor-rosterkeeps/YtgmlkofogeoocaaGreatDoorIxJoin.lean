/- The append of one row of numbers to another, as a law of the walk. -/
import Derived.Test.YtgmlkofogeoocaaGreatDoorZ02
import Derived.Laws.AppendOwnNone
namespace Go.Proofs.YtgmlkofogeoocaaGreatDoor
open Go.RowKit
theorem Ints.mono {B B' : Nat} {w : World} {v : Value} {l : List Int} (h : Ints B w v l) (hb : B' ≤ B) : Ints B' w v l := by
  refine ⟨h.1, ?_⟩
  rcases h.2 with h | ⟨g, cap, cur, hv, h0, r⟩
  · exact Or.inl h
  · exact Or.inr ⟨g, cap, cur, hv, Nat.le_trans hb h0, r⟩
end Go.Proofs.YtgmlkofogeoocaaGreatDoor
