/- Texts joined: IxJoin IxRefD. -/
import Derived.Test.YtnfhbmlmemifjaaGreatDoorZ02
import Derived.Laws.AppendOwnNone
/- The append of one row of numbers to another, as a law of the walk. -/
namespace Go.Proofs.YtnfhbmlmemifjaaGreatDoor
open Go.RowKit
theorem Ints.mono {B B' : Nat} {w : World} {v : Value} {l : List Int} (h : Ints B w v l) (hb : B' ≤ B) : Ints B' w v l := by
  refine ⟨h.1, ?_⟩
  rcases h.2 with h | ⟨g, cap, cur, hv, h0, r⟩
  · exact Or.inl h
  · exact Or.inr ⟨g, cap, cur, hv, Nat.le_trans hb h0, r⟩
end Go.Proofs.YtnfhbmlmemifjaaGreatDoor

/- Contracts of the document's own answers for layer 2: who is below whom, and the rows of nodes above. -/
namespace Go.Proofs.YtnfhbmlmemifjaaGreatDoor
open Go.RowKit
end Go.Proofs.YtnfhbmlmemifjaaGreatDoor
