/- The row of TreeSets: its closed facts together. -/
import Derived.Test.YtpgppnmobbgefaaGreatDoorTreeSetsF
namespace Go.Proofs.YtpgppnmobbgefaaGreatDoor
open Go.ChangeShapes Go.WideShapes Go.ChangeAt Go.RowKit
set_option maxRecDepth 100000 in
theorem TreeSets_closed : joinedFacts Tryz.prog 6 Tryz.f6 Rows.treeSetsSpec Rows.treeSetsRow = true := by
  unfold joinedFacts
  simp only [Bool.and_eq_true]
  exact ⟨⟨⟨⟨⟨⟨⟨⟨⟨⟨⟨⟨⟨⟨⟨⟨⟨⟨⟨⟨⟨⟨⟨⟨⟨⟨⟨⟨⟨⟨⟨TreeSets_k0, closed_k1⟩, closed_k2⟩, TreeSets_k3⟩, TreeSets_k4⟩, TreeSets_k5⟩, closed_k6⟩, TreeSets_k7⟩, closed_k8⟩, TreeSets_k9⟩, TreeSets_k10⟩, TreeSets_k11⟩, TreeSets_k12⟩, TreeSets_k13⟩, TreeSets_k14⟩, TreeSets_k15⟩, TreeSets_k16⟩, TreeSets_k17⟩, TreeSets_k18⟩, TreeSets_k19⟩, TreeSets_k20⟩, TreeSets_k21⟩, TreeSets_k22⟩, TreeSets_k23⟩, closed_k24⟩, closed_k25⟩, TreeSets_k26⟩, TreeSets_k27⟩, TreeSets_k28⟩, TreeSets_k29⟩, TreeSets_k30⟩, TreeSets_k31⟩
end Go.Proofs.YtpgppnmobbgefaaGreatDoor
