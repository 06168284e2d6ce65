/- The row of PathSecrets: its closed facts together. -/
import Derived.Test.YtpcpcgagiapinaaGreatDoorPathSecretsF
namespace Go.Proofs.YtpcpcgagiapinaaGreatDoor
open Go.ChangeShapes Go.WideShapes Go.ChangeAt Go.RowKit
set_option maxRecDepth 100000 in
theorem PathSecrets_closed : joinedFacts Tryz.prog 3 Tryz.f3 Rows.pathSecretsSpec Rows.pathSecretsRow = true := by
  unfold joinedFacts
  simp only [Bool.and_eq_true]
  exact ⟨⟨⟨⟨⟨⟨⟨⟨⟨⟨⟨⟨⟨⟨⟨⟨⟨⟨⟨⟨⟨⟨⟨⟨⟨⟨⟨⟨⟨⟨⟨PathSecrets_k0, closed_k1⟩, closed_k2⟩, PathSecrets_k3⟩, PathSecrets_k4⟩, PathSecrets_k5⟩, closed_k6⟩, PathSecrets_k7⟩, closed_k8⟩, PathSecrets_k9⟩, PathSecrets_k10⟩, PathSecrets_k11⟩, PathSecrets_k12⟩, PathSecrets_k13⟩, PathSecrets_k14⟩, PathSecrets_k15⟩, PathSecrets_k16⟩, PathSecrets_k17⟩, PathSecrets_k18⟩, PathSecrets_k19⟩, PathSecrets_k20⟩, PathSecrets_k21⟩, PathSecrets_k22⟩, PathSecrets_k23⟩, closed_k24⟩, closed_k25⟩, PathSecrets_k26⟩, PathSecrets_k27⟩, PathSecrets_k28⟩, PathSecrets_k29⟩, PathSecrets_k30⟩, PathSecrets_k31⟩
end Go.Proofs.YtpcpcgagiapinaaGreatDoor
