/- The row of TreeTells: its closed facts together. -/
import Derived.Test.YtocopmbdjopljaaGreatDoorTreeTellsF
namespace Go.Proofs.YtocopmbdjopljaaGreatDoor
open Go.ChangeShapes Go.WideShapes Go.ChangeAt Go.RowKit
set_option maxRecDepth 100000 in
theorem TreeTells_closed : joinedFacts Tryz.prog 3 Tryz.f3 Rows.treeTellsSpec Rows.treeTellsRow = true := by
  unfold joinedFacts
  simp only [Bool.and_eq_true]
  exact ⟨⟨⟨⟨⟨⟨⟨⟨⟨⟨⟨⟨⟨⟨⟨⟨⟨⟨⟨⟨⟨⟨⟨⟨⟨⟨⟨⟨⟨⟨⟨TreeTells_k0, closed_k1⟩, closed_k2⟩, TreeTells_k3⟩, TreeTells_k4⟩, TreeTells_k5⟩, closed_k6⟩, TreeTells_k7⟩, closed_k8⟩, TreeTells_k9⟩, TreeTells_k10⟩, TreeTells_k11⟩, TreeTells_k12⟩, TreeTells_k13⟩, TreeTells_k14⟩, TreeTells_k15⟩, TreeTells_k16⟩, TreeTells_k17⟩, TreeTells_k18⟩, TreeTells_k19⟩, TreeTells_k20⟩, TreeTells_k21⟩, TreeTells_k22⟩, TreeTells_k23⟩, closed_k24⟩, closed_k25⟩, TreeTells_k26⟩, TreeTells_k27⟩, TreeTells_k28⟩, TreeTells_k29⟩, TreeTells_k30⟩, TreeTells_k31⟩
end Go.Proofs.YtocopmbdjopljaaGreatDoor
