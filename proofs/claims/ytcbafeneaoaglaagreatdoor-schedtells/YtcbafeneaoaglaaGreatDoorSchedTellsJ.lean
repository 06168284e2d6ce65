/- The row of SchedTells: its closed facts together. -/
import Derived.Test.YtcbafeneaoaglaaGreatDoorSchedTellsF
namespace Go.Proofs.YtcbafeneaoaglaaGreatDoor
open Go.ChangeShapes Go.WideShapes Go.ChangeAt Go.RowKit
set_option maxRecDepth 100000 in
theorem SchedTells_closed : joinedFacts Tryz.prog 3 Tryz.f3 Rows.schedTellsSpec Rows.schedTellsRow = true := by
  unfold joinedFacts
  simp only [Bool.and_eq_true]
  exact ⟨⟨⟨⟨⟨⟨⟨⟨⟨⟨⟨⟨⟨⟨⟨⟨⟨⟨⟨⟨⟨⟨⟨⟨⟨⟨⟨⟨⟨⟨⟨SchedTells_k0, closed_k1⟩, closed_k2⟩, SchedTells_k3⟩, SchedTells_k4⟩, SchedTells_k5⟩, closed_k6⟩, SchedTells_k7⟩, closed_k8⟩, SchedTells_k9⟩, SchedTells_k10⟩, SchedTells_k11⟩, SchedTells_k12⟩, SchedTells_k13⟩, SchedTells_k14⟩, SchedTells_k15⟩, SchedTells_k16⟩, SchedTells_k17⟩, SchedTells_k18⟩, SchedTells_k19⟩, SchedTells_k20⟩, SchedTells_k21⟩, SchedTells_k22⟩, SchedTells_k23⟩, closed_k24⟩, closed_k25⟩, SchedTells_k26⟩, SchedTells_k27⟩, SchedTells_k28⟩, SchedTells_k29⟩, SchedTells_k30⟩, SchedTells_k31⟩
end Go.Proofs.YtcbafeneaoaglaaGreatDoor
