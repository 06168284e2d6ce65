/- What the row of TreeSets has closed. -/
import Derived.Test.YtpgppnmobbgefaaGreatDoorJoinedU
namespace Go.Proofs.YtpgppnmobbgefaaGreatDoor
open Go.ChangeShapes Go.WideShapes Go.ChangeAt Go.RowKit
theorem TreeSets_k0 : (Rows.treeSetsRow.wf (OpenSpec.ofChange Rows.treeSetsSpec)) = true := by kernel_rfl
theorem TreeSets_k3 : (Tryz.f6.params.all (Tryz.prog.readableRec ·)) = true := by kernel_rfl
theorem TreeSets_k4 : (namedTie Tryz.prog Rows.treeSetsRow.named Rows.treeSetsSpec.vars) = true := by kernel_rfl
theorem TreeSets_k5 : ((Rows.treeSetsRow.stops == [])) = true := by kernel_rfl
theorem TreeSets_k7 : ((Rows.treeSetsRow.knobs == [])) = true := by kernel_rfl
theorem TreeSets_k9 : ((Rows.treeSetsRow.inPlace == Tryz.prog.inPlace 6)) = true := by kernel_rfl
theorem TreeSets_k10 : ((Rows.treeSetsRow.unfollowed == Tryz.prog.unfollowed 6)) = true := by kernel_rfl
theorem TreeSets_k11 : ((Rows.treeSetsRow.recurses == Tryz.prog.recurses 6)) = true := by kernel_rfl
theorem TreeSets_k12 : ((Rows.treeSetsRow.named == Tryz.prog.varsNamed 6)) = true := by kernel_rfl
theorem TreeSets_k13 : ((Rows.treeSetsRow.maps == (Tryz.f6.params.toList ++ Rows.treeSetsSpec.plain.varTypes Tryz.prog).any (Tryz.prog.mapsRec ·))) = true := by kernel_rfl
theorem TreeSets_k14 : ((Rows.treeSetsRow.ifaces == (Tryz.f6.params.toList ++ Rows.treeSetsSpec.plain.varTypes Tryz.prog).any (Tryz.prog.ifacesRec ·))) = true := by kernel_rfl
theorem TreeSets_k15 : ((Rows.treeSetsRow.mapsOut == Tryz.prog.mapsAmong Tryz.f6.resultTypes.toList)) = true := by kernel_rfl
theorem TreeSets_k16 : ((Rows.treeSetsRow.loops == (Tryz.f6.params.toList ++ Rows.treeSetsSpec.plain.varTypes Tryz.prog).any (Tryz.prog.loopsFrom ·))) = true := by kernel_rfl
theorem TreeSets_k17 : ((Rows.treeSetsRow.wideKeys == (Tryz.f6.params.toList ++ Rows.treeSetsSpec.plain.varTypes Tryz.prog ++ Tryz.f6.resultTypes.toList).any (Tryz.prog.wideKeysFrom ·))) = true := by kernel_rfl
theorem TreeSets_k18 : (Rows.treeSetsSpec.vars.all (Tryz.prog.varReadable ·)) = true := by kernel_rfl
theorem TreeSets_k19 : (Tryz.f6.resultTypes.all (fun t => Tryz.prog.readableRec t && decide (t < Tryz.prog.types.size))) = true := by kernel_rfl
theorem TreeSets_k20 : ((Rows.treeSetsRow.ifacesOut == Tryz.f6.resultTypes.toList.any (Tryz.prog.ifacesRec ·))) = true := by kernel_rfl
theorem TreeSets_k21 : ((Rows.treeSetsRow.loopsOut == Tryz.f6.resultTypes.toList.any (Tryz.prog.loopsFrom ·))) = true := by kernel_rfl
theorem TreeSets_k22 : ((Rows.treeSetsRow.plainKeys == Tryz.prog.plainKeys)) = true := by kernel_rfl
theorem TreeSets_k23 : (Rows.treeSetsRow.shortTexts.isNone) = true := by kernel_rfl
theorem TreeSets_k26 : ((Rows.treeSetsRow.lifted == Tryz.prog.liftsFinal)) = true := by kernel_rfl
theorem TreeSets_k27 : ((Tryz.prog.make == some Rows.treeSetsRow.make)) = true := by kernel_rfl
theorem TreeSets_k28 : ((Rows.treeSetsRow.kinds == (if Rows.treeSetsRow.domain.isEmpty then [] else Tryz.f6.params.toList.map fun t => match Tryz.prog.underlying t with | some (.int k) => some k | _ => none))) = true := by kernel_rfl
theorem TreeSets_k29 : ((Rows.treeSetsRow.pinned == Rows.treeSetsRow.pinnedBy)) = true := by kernel_rfl
theorem TreeSets_k30 : ((Rows.treeSetsRow.veiled == (Tryz.f6.params.toList ++ Rows.treeSetsSpec.plain.varTypes Tryz.prog ++ Tryz.f6.resultTypes.toList).any (Tryz.prog.veiledRec ·))) = true := by kernel_rfl
theorem TreeSets_k31 : (Rows.treeSetsRow.veiledFits Tryz.prog Tryz.f6.params.toList (Tryz.f6.params.toList ++ Rows.treeSetsSpec.plain.varTypes Tryz.prog ++ Tryz.f6.resultTypes.toList)) = true := by kernel_rfl
end Go.Proofs.YtpgppnmobbgefaaGreatDoor
