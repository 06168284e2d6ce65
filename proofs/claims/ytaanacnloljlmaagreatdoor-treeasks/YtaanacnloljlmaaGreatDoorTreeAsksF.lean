/- What the row of TreeAsks has closed. -/
import Derived.Test.YtaanacnloljlmaaGreatDoorJoinedU
namespace Go.Proofs.YtaanacnloljlmaaGreatDoor
open Go.ChangeShapes Go.WideShapes Go.ChangeAt Go.RowKit
theorem TreeAsks_k0 : (Rows.treeAsksRow.wf (OpenSpec.ofChange Rows.treeAsksSpec)) = true := by kernel_rfl
theorem TreeAsks_k3 : (Tryz.f4.params.all (Tryz.prog.readableRec ·)) = true := by kernel_rfl
theorem TreeAsks_k4 : (namedTie Tryz.prog Rows.treeAsksRow.named Rows.treeAsksSpec.vars) = true := by kernel_rfl
theorem TreeAsks_k5 : ((Rows.treeAsksRow.stops == [])) = true := by kernel_rfl
theorem TreeAsks_k7 : ((Rows.treeAsksRow.knobs == [])) = true := by kernel_rfl
theorem TreeAsks_k9 : ((Rows.treeAsksRow.inPlace == Tryz.prog.inPlace 4)) = true := by kernel_rfl
theorem TreeAsks_k10 : ((Rows.treeAsksRow.unfollowed == Tryz.prog.unfollowed 4)) = true := by kernel_rfl
theorem TreeAsks_k11 : ((Rows.treeAsksRow.recurses == Tryz.prog.recurses 4)) = true := by kernel_rfl
theorem TreeAsks_k12 : ((Rows.treeAsksRow.named == Tryz.prog.varsNamed 4)) = true := by kernel_rfl
theorem TreeAsks_k13 : ((Rows.treeAsksRow.maps == (Tryz.f4.params.toList ++ Rows.treeAsksSpec.plain.varTypes Tryz.prog).any (Tryz.prog.mapsRec ·))) = true := by kernel_rfl
theorem TreeAsks_k14 : ((Rows.treeAsksRow.ifaces == (Tryz.f4.params.toList ++ Rows.treeAsksSpec.plain.varTypes Tryz.prog).any (Tryz.prog.ifacesRec ·))) = true := by kernel_rfl
theorem TreeAsks_k15 : ((Rows.treeAsksRow.mapsOut == Tryz.prog.mapsAmong Tryz.f4.resultTypes.toList)) = true := by kernel_rfl
theorem TreeAsks_k16 : ((Rows.treeAsksRow.loops == (Tryz.f4.params.toList ++ Rows.treeAsksSpec.plain.varTypes Tryz.prog).any (Tryz.prog.loopsFrom ·))) = true := by kernel_rfl
theorem TreeAsks_k17 : ((Rows.treeAsksRow.wideKeys == (Tryz.f4.params.toList ++ Rows.treeAsksSpec.plain.varTypes Tryz.prog ++ Tryz.f4.resultTypes.toList).any (Tryz.prog.wideKeysFrom ·))) = true := by kernel_rfl
theorem TreeAsks_k18 : (Rows.treeAsksSpec.vars.all (Tryz.prog.varReadable ·)) = true := by kernel_rfl
theorem TreeAsks_k19 : (Tryz.f4.resultTypes.all (fun t => Tryz.prog.readableRec t && decide (t < Tryz.prog.types.size))) = true := by kernel_rfl
theorem TreeAsks_k20 : ((Rows.treeAsksRow.ifacesOut == Tryz.f4.resultTypes.toList.any (Tryz.prog.ifacesRec ·))) = true := by kernel_rfl
theorem TreeAsks_k21 : ((Rows.treeAsksRow.loopsOut == Tryz.f4.resultTypes.toList.any (Tryz.prog.loopsFrom ·))) = true := by kernel_rfl
theorem TreeAsks_k22 : ((Rows.treeAsksRow.plainKeys == Tryz.prog.plainKeys)) = true := by kernel_rfl
theorem TreeAsks_k23 : (Rows.treeAsksRow.shortTexts.isNone) = true := by kernel_rfl
theorem TreeAsks_k26 : ((Rows.treeAsksRow.lifted == Tryz.prog.liftsFinal)) = true := by kernel_rfl
theorem TreeAsks_k27 : ((Tryz.prog.make == some Rows.treeAsksRow.make)) = true := by kernel_rfl
theorem TreeAsks_k28 : ((Rows.treeAsksRow.kinds == (if Rows.treeAsksRow.domain.isEmpty then [] else Tryz.f4.params.toList.map fun t => match Tryz.prog.underlying t with | some (.int k) => some k | _ => none))) = true := by kernel_rfl
theorem TreeAsks_k29 : ((Rows.treeAsksRow.pinned == Rows.treeAsksRow.pinnedBy)) = true := by kernel_rfl
theorem TreeAsks_k30 : ((Rows.treeAsksRow.veiled == (Tryz.f4.params.toList ++ Rows.treeAsksSpec.plain.varTypes Tryz.prog ++ Tryz.f4.resultTypes.toList).any (Tryz.prog.veiledRec ·))) = true := by kernel_rfl
theorem TreeAsks_k31 : (Rows.treeAsksRow.veiledFits Tryz.prog Tryz.f4.params.toList (Tryz.f4.params.toList ++ Rows.treeAsksSpec.plain.varTypes Tryz.prog ++ Tryz.f4.resultTypes.toList)) = true := by kernel_rfl
end Go.Proofs.YtaanacnloljlmaaGreatDoor
