/- The row of PathAbove: its closed facts together. -/
import Derived.Test.YtpcpcgagiapinaaGreatDoorPathAboveF
namespace Go.Proofs.YtpcpcgagiapinaaGreatDoor
open Go.ChangeShapes Go.WideShapes Go.ChangeAt Go.RowKit
set_option maxRecDepth 100000 in
theorem PathAbove_closed : joinedFacts Tryz.prog 4 Tryz.f4 Rows.pathAboveSpec Rows.pathAboveRow = true := by
  unfold joinedFacts
  simp only [Bool.and_eq_true]
  exact ⟨⟨⟨⟨⟨⟨⟨⟨⟨⟨⟨⟨⟨⟨⟨⟨⟨⟨⟨⟨⟨⟨⟨⟨⟨⟨⟨⟨⟨⟨⟨PathAbove_k0, closed_k1⟩, closed_k2⟩, PathAbove_k3⟩, PathAbove_k4⟩, PathAbove_k5⟩, closed_k6⟩, PathAbove_k7⟩, closed_k8⟩, PathAbove_k9⟩, PathAbove_k10⟩, PathAbove_k11⟩, PathAbove_k12⟩, PathAbove_k13⟩, PathAbove_k14⟩, PathAbove_k15⟩, PathAbove_k16⟩, PathAbove_k17⟩, PathAbove_k18⟩, PathAbove_k19⟩, PathAbove_k20⟩, PathAbove_k21⟩, PathAbove_k22⟩, PathAbove_k23⟩, closed_k24⟩, closed_k25⟩, PathAbove_k26⟩, PathAbove_k27⟩, PathAbove_k28⟩, PathAbove_k29⟩, PathAbove_k30⟩, PathAbove_k31⟩
end Go.Proofs.YtpcpcgagiapinaaGreatDoor
