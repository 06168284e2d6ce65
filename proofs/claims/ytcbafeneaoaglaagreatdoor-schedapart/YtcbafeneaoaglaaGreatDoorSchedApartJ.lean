/- The row of SchedApart: its closed facts together. -/
import Derived.Test.YtcbafeneaoaglaaGreatDoorSchedApartF
namespace Go.Proofs.YtcbafeneaoaglaaGreatDoor
open Go.ChangeShapes Go.WideShapes Go.ChangeAt Go.RowKit
set_option maxRecDepth 100000 in
theorem SchedApart_closed : joinedFacts Tryz.prog 4 Tryz.f4 Rows.schedApartSpec Rows.schedApartRow = true := by
  unfold joinedFacts
  simp only [Bool.and_eq_true]
  exact ⟨⟨⟨⟨⟨⟨⟨⟨⟨⟨⟨⟨⟨⟨⟨⟨⟨⟨⟨⟨⟨⟨⟨⟨⟨⟨⟨⟨⟨⟨⟨SchedApart_k0, closed_k1⟩, closed_k2⟩, SchedApart_k3⟩, SchedApart_k4⟩, SchedApart_k5⟩, closed_k6⟩, SchedApart_k7⟩, closed_k8⟩, SchedApart_k9⟩, SchedApart_k10⟩, SchedApart_k11⟩, SchedApart_k12⟩, SchedApart_k13⟩, SchedApart_k14⟩, SchedApart_k15⟩, SchedApart_k16⟩, SchedApart_k17⟩, SchedApart_k18⟩, SchedApart_k19⟩, SchedApart_k20⟩, SchedApart_k21⟩, SchedApart_k22⟩, SchedApart_k23⟩, closed_k24⟩, closed_k25⟩, SchedApart_k26⟩, SchedApart_k27⟩, SchedApart_k28⟩, SchedApart_k29⟩, SchedApart_k30⟩, SchedApart_k31⟩
end Go.Proofs.YtcbafeneaoaglaaGreatDoor
