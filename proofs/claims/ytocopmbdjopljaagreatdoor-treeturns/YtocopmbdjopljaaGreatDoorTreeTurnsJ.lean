/- The row of TreeTurns: its closed facts together. -/
import Derived.Test.YtocopmbdjopljaaGreatDoorTreeTurnsF
namespace Go.Proofs.YtocopmbdjopljaaGreatDoor
open Go.ChangeShapes Go.WideShapes Go.ChangeAt Go.RowKit
set_option maxRecDepth 100000 in
theorem TreeTurns_closed : joinedFacts Tryz.prog 4 Tryz.f4 Rows.treeTurnsSpec Rows.treeTurnsRow = true := by
  unfold joinedFacts
  simp only [Bool.and_eq_true]
  exact ⟨⟨⟨⟨⟨⟨⟨⟨⟨⟨⟨⟨⟨⟨⟨⟨⟨⟨⟨⟨⟨⟨⟨⟨⟨⟨⟨⟨⟨⟨⟨TreeTurns_k0, closed_k1⟩, closed_k2⟩, TreeTurns_k3⟩, TreeTurns_k4⟩, TreeTurns_k5⟩, closed_k6⟩, TreeTurns_k7⟩, closed_k8⟩, TreeTurns_k9⟩, TreeTurns_k10⟩, TreeTurns_k11⟩, TreeTurns_k12⟩, TreeTurns_k13⟩, TreeTurns_k14⟩, TreeTurns_k15⟩, TreeTurns_k16⟩, TreeTurns_k17⟩, TreeTurns_k18⟩, TreeTurns_k19⟩, TreeTurns_k20⟩, TreeTurns_k21⟩, TreeTurns_k22⟩, TreeTurns_k23⟩, closed_k24⟩, closed_k25⟩, TreeTurns_k26⟩, TreeTurns_k27⟩, TreeTurns_k28⟩, TreeTurns_k29⟩, TreeTurns_k30⟩, TreeTurns_k31⟩
end Go.Proofs.YtocopmbdjopljaaGreatDoor
