/- What the row of PathSecrets has closed. -/
import Derived.Test.YtpcpcgagiapinaaGreatDoorJoinedU
namespace Go.Proofs.YtpcpcgagiapinaaGreatDoor
open Go.ChangeShapes Go.WideShapes Go.ChangeAt Go.RowKit
theorem PathSecrets_k0 : (Rows.pathSecretsRow.wf (OpenSpec.ofChange Rows.pathSecretsSpec)) = true := by kernel_rfl
theorem PathSecrets_k3 : (Tryz.f3.params.all (Tryz.prog.readableRec ·)) = true := by kernel_rfl
theorem PathSecrets_k4 : (namedTie Tryz.prog Rows.pathSecretsRow.named Rows.pathSecretsSpec.vars) = true := by kernel_rfl
theorem PathSecrets_k5 : ((Rows.pathSecretsRow.stops == [])) = true := by kernel_rfl
theorem PathSecrets_k7 : ((Rows.pathSecretsRow.knobs == [])) = true := by kernel_rfl
theorem PathSecrets_k9 : ((Rows.pathSecretsRow.inPlace == Tryz.prog.inPlace 3)) = true := by kernel_rfl
theorem PathSecrets_k10 : ((Rows.pathSecretsRow.unfollowed == Tryz.prog.unfollowed 3)) = true := by kernel_rfl
theorem PathSecrets_k11 : ((Rows.pathSecretsRow.recurses == Tryz.prog.recurses 3)) = true := by kernel_rfl
theorem PathSecrets_k12 : ((Rows.pathSecretsRow.named == Tryz.prog.varsNamed 3)) = true := by kernel_rfl
theorem PathSecrets_k13 : ((Rows.pathSecretsRow.maps == (Tryz.f3.params.toList ++ Rows.pathSecretsSpec.plain.varTypes Tryz.prog).any (Tryz.prog.mapsRec ·))) = true := by kernel_rfl
theorem PathSecrets_k14 : ((Rows.pathSecretsRow.ifaces == (Tryz.f3.params.toList ++ Rows.pathSecretsSpec.plain.varTypes Tryz.prog).any (Tryz.prog.ifacesRec ·))) = true := by kernel_rfl
theorem PathSecrets_k15 : ((Rows.pathSecretsRow.mapsOut == Tryz.prog.mapsAmong Tryz.f3.resultTypes.toList)) = true := by kernel_rfl
theorem PathSecrets_k16 : ((Rows.pathSecretsRow.loops == (Tryz.f3.params.toList ++ Rows.pathSecretsSpec.plain.varTypes Tryz.prog).any (Tryz.prog.loopsFrom ·))) = true := by kernel_rfl
theorem PathSecrets_k17 : ((Rows.pathSecretsRow.wideKeys == (Tryz.f3.params.toList ++ Rows.pathSecretsSpec.plain.varTypes Tryz.prog ++ Tryz.f3.resultTypes.toList).any (Tryz.prog.wideKeysFrom ·))) = true := by kernel_rfl
theorem PathSecrets_k18 : (Rows.pathSecretsSpec.vars.all (Tryz.prog.varReadable ·)) = true := by kernel_rfl
theorem PathSecrets_k19 : (Tryz.f3.resultTypes.all (fun t => Tryz.prog.readableRec t && decide (t < Tryz.prog.types.size))) = true := by kernel_rfl
theorem PathSecrets_k20 : ((Rows.pathSecretsRow.ifacesOut == Tryz.f3.resultTypes.toList.any (Tryz.prog.ifacesRec ·))) = true := by kernel_rfl
theorem PathSecrets_k21 : ((Rows.pathSecretsRow.loopsOut == Tryz.f3.resultTypes.toList.any (Tryz.prog.loopsFrom ·))) = true := by kernel_rfl
theorem PathSecrets_k22 : ((Rows.pathSecretsRow.plainKeys == Tryz.prog.plainKeys)) = true := by kernel_rfl
theorem PathSecrets_k23 : (Rows.pathSecretsRow.shortTexts.isNone) = true := by kernel_rfl
theorem PathSecrets_k26 : ((Rows.pathSecretsRow.lifted == Tryz.prog.liftsFinal)) = true := by kernel_rfl
theorem PathSecrets_k27 : ((Tryz.prog.make == some Rows.pathSecretsRow.make)) = true := by kernel_rfl
theorem PathSecrets_k28 : ((Rows.pathSecretsRow.kinds == (if Rows.pathSecretsRow.domain.isEmpty then [] else Tryz.f3.params.toList.map fun t => match Tryz.prog.underlying t with | some (.int k) => some k | _ => none))) = true := by kernel_rfl
theorem PathSecrets_k29 : ((Rows.pathSecretsRow.pinned == Rows.pathSecretsRow.pinnedBy)) = true := by kernel_rfl
theorem PathSecrets_k30 : ((Rows.pathSecretsRow.veiled == (Tryz.f3.params.toList ++ Rows.pathSecretsSpec.plain.varTypes Tryz.prog ++ Tryz.f3.resultTypes.toList).any (Tryz.prog.veiledRec ·))) = true := by kernel_rfl
theorem PathSecrets_k31 : (Rows.pathSecretsRow.veiledFits Tryz.prog Tryz.f3.params.toList (Tryz.f3.params.toList ++ Rows.pathSecretsSpec.plain.varTypes Tryz.prog ++ Tryz.f3.resultTypes.toList)) = true := by kernel_rfl
end Go.Proofs.YtpcpcgagiapinaaGreatDoor
