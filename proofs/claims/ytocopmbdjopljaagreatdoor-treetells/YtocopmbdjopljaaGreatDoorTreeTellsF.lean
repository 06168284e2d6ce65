/- What the row of TreeTells has closed. -/
import Derived.Test.YtocopmbdjopljaaGreatDoorJoinedU
namespace Go.Proofs.YtocopmbdjopljaaGreatDoor
open Go.ChangeShapes Go.WideShapes Go.ChangeAt Go.RowKit
theorem TreeTells_k0 : (Rows.treeTellsRow.wf (OpenSpec.ofChange Rows.treeTellsSpec)) = true := by kernel_rfl
theorem TreeTells_k3 : (Tryz.f3.params.all (Tryz.prog.readableRec ·)) = true := by kernel_rfl
theorem TreeTells_k4 : (namedTie Tryz.prog Rows.treeTellsRow.named Rows.treeTellsSpec.vars) = true := by kernel_rfl
theorem TreeTells_k5 : ((Rows.treeTellsRow.stops == [])) = true := by kernel_rfl
theorem TreeTells_k7 : ((Rows.treeTellsRow.knobs == [])) = true := by kernel_rfl
theorem TreeTells_k9 : ((Rows.treeTellsRow.inPlace == Tryz.prog.inPlace 3)) = true := by kernel_rfl
theorem TreeTells_k10 : ((Rows.treeTellsRow.unfollowed == Tryz.prog.unfollowed 3)) = true := by kernel_rfl
theorem TreeTells_k11 : ((Rows.treeTellsRow.recurses == Tryz.prog.recurses 3)) = true := by kernel_rfl
theorem TreeTells_k12 : ((Rows.treeTellsRow.named == Tryz.prog.varsNamed 3)) = true := by kernel_rfl
theorem TreeTells_k13 : ((Rows.treeTellsRow.maps == (Tryz.f3.params.toList ++ Rows.treeTellsSpec.plain.varTypes Tryz.prog).any (Tryz.prog.mapsRec ·))) = true := by kernel_rfl
theorem TreeTells_k14 : ((Rows.treeTellsRow.ifaces == (Tryz.f3.params.toList ++ Rows.treeTellsSpec.plain.varTypes Tryz.prog).any (Tryz.prog.ifacesRec ·))) = true := by kernel_rfl
theorem TreeTells_k15 : ((Rows.treeTellsRow.mapsOut == Tryz.prog.mapsAmong Tryz.f3.resultTypes.toList)) = true := by kernel_rfl
theorem TreeTells_k16 : ((Rows.treeTellsRow.loops == (Tryz.f3.params.toList ++ Rows.treeTellsSpec.plain.varTypes Tryz.prog).any (Tryz.prog.loopsFrom ·))) = true := by kernel_rfl
theorem TreeTells_k17 : ((Rows.treeTellsRow.wideKeys == (Tryz.f3.params.toList ++ Rows.treeTellsSpec.plain.varTypes Tryz.prog ++ Tryz.f3.resultTypes.toList).any (Tryz.prog.wideKeysFrom ·))) = true := by kernel_rfl
theorem TreeTells_k18 : (Rows.treeTellsSpec.vars.all (Tryz.prog.varReadable ·)) = true := by kernel_rfl
theorem TreeTells_k19 : (Tryz.f3.resultTypes.all (fun t => Tryz.prog.readableRec t && decide (t < Tryz.prog.types.size))) = true := by kernel_rfl
theorem TreeTells_k20 : ((Rows.treeTellsRow.ifacesOut == Tryz.f3.resultTypes.toList.any (Tryz.prog.ifacesRec ·))) = true := by kernel_rfl
theorem TreeTells_k21 : ((Rows.treeTellsRow.loopsOut == Tryz.f3.resultTypes.toList.any (Tryz.prog.loopsFrom ·))) = true := by kernel_rfl
theorem TreeTells_k22 : ((Rows.treeTellsRow.plainKeys == Tryz.prog.plainKeys)) = true := by kernel_rfl
theorem TreeTells_k23 : (Rows.treeTellsRow.shortTexts.isNone) = true := by kernel_rfl
theorem TreeTells_k26 : ((Rows.treeTellsRow.lifted == Tryz.prog.liftsFinal)) = true := by kernel_rfl
theorem TreeTells_k27 : ((Tryz.prog.make == some Rows.treeTellsRow.make)) = true := by kernel_rfl
theorem TreeTells_k28 : ((Rows.treeTellsRow.kinds == (if Rows.treeTellsRow.domain.isEmpty then [] else Tryz.f3.params.toList.map fun t => match Tryz.prog.underlying t with | some (.int k) => some k | _ => none))) = true := by kernel_rfl
theorem TreeTells_k29 : ((Rows.treeTellsRow.pinned == Rows.treeTellsRow.pinnedBy)) = true := by kernel_rfl
theorem TreeTells_k30 : ((Rows.treeTellsRow.veiled == (Tryz.f3.params.toList ++ Rows.treeTellsSpec.plain.varTypes Tryz.prog ++ Tryz.f3.resultTypes.toList).any (Tryz.prog.veiledRec ·))) = true := by kernel_rfl
theorem TreeTells_k31 : (Rows.treeTellsRow.veiledFits Tryz.prog Tryz.f3.params.toList (Tryz.f3.params.toList ++ Rows.treeTellsSpec.plain.varTypes Tryz.prog ++ Tryz.f3.resultTypes.toList)) = true := by kernel_rfl
end Go.Proofs.YtocopmbdjopljaaGreatDoor
