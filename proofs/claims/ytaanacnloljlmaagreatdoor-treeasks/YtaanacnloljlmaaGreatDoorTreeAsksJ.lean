/- The row of TreeAsks: its closed facts together. -/
import Derived.Test.YtaanacnloljlmaaGreatDoorTreeAsksF
namespace Go.Proofs.YtaanacnloljlmaaGreatDoor
open Go.ChangeShapes Go.WideShapes Go.ChangeAt Go.RowKit
set_option maxRecDepth 100000 in
theorem TreeAsks_closed : joinedFacts Tryz.prog 4 Tryz.f4 Rows.treeAsksSpec Rows.treeAsksRow = true := by
  unfold joinedFacts
  simp only [Bool.and_eq_true]
  exact ⟨⟨⟨⟨⟨⟨⟨⟨⟨⟨⟨⟨⟨⟨⟨⟨⟨⟨⟨⟨⟨⟨⟨⟨⟨⟨⟨⟨⟨⟨⟨TreeAsks_k0, closed_k1⟩, closed_k2⟩, TreeAsks_k3⟩, TreeAsks_k4⟩, TreeAsks_k5⟩, closed_k6⟩, TreeAsks_k7⟩, closed_k8⟩, TreeAsks_k9⟩, TreeAsks_k10⟩, TreeAsks_k11⟩, TreeAsks_k12⟩, TreeAsks_k13⟩, TreeAsks_k14⟩, TreeAsks_k15⟩, TreeAsks_k16⟩, TreeAsks_k17⟩, TreeAsks_k18⟩, TreeAsks_k19⟩, TreeAsks_k20⟩, TreeAsks_k21⟩, TreeAsks_k22⟩, TreeAsks_k23⟩, closed_k24⟩, closed_k25⟩, TreeAsks_k26⟩, TreeAsks_k27⟩, TreeAsks_k28⟩, TreeAsks_k29⟩, TreeAsks_k30⟩, TreeAsks_k31⟩
end Go.Proofs.YtaanacnloljlmaaGreatDoor
