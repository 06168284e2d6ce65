/- What the row of SchedTells has closed. -/
import Derived.Test.YtcbafeneaoaglaaGreatDoorJoinedU
namespace Go.Proofs.YtcbafeneaoaglaaGreatDoor
open Go.ChangeShapes Go.WideShapes Go.ChangeAt Go.RowKit
theorem SchedTells_k0 : (Rows.schedTellsRow.wf (OpenSpec.ofChange Rows.schedTellsSpec)) = true := by kernel_rfl
theorem SchedTells_k3 : (Tryz.f3.params.all (Tryz.prog.readableRec ·)) = true := by kernel_rfl
theorem SchedTells_k4 : (namedTie Tryz.prog Rows.schedTellsRow.named Rows.schedTellsSpec.vars) = true := by kernel_rfl
theorem SchedTells_k5 : ((Rows.schedTellsRow.stops == [])) = true := by kernel_rfl
theorem SchedTells_k7 : ((Rows.schedTellsRow.knobs == [])) = true := by kernel_rfl
theorem SchedTells_k9 : ((Rows.schedTellsRow.inPlace == Tryz.prog.inPlace 3)) = true := by kernel_rfl
theorem SchedTells_k10 : ((Rows.schedTellsRow.unfollowed == Tryz.prog.unfollowed 3)) = true := by kernel_rfl
theorem SchedTells_k11 : ((Rows.schedTellsRow.recurses == Tryz.prog.recurses 3)) = true := by kernel_rfl
theorem SchedTells_k12 : ((Rows.schedTellsRow.named == Tryz.prog.varsNamed 3)) = true := by kernel_rfl
theorem SchedTells_k13 : ((Rows.schedTellsRow.maps == (Tryz.f3.params.toList ++ Rows.schedTellsSpec.plain.varTypes Tryz.prog).any (Tryz.prog.mapsRec ·))) = true := by kernel_rfl
theorem SchedTells_k14 : ((Rows.schedTellsRow.ifaces == (Tryz.f3.params.toList ++ Rows.schedTellsSpec.plain.varTypes Tryz.prog).any (Tryz.prog.ifacesRec ·))) = true := by kernel_rfl
theorem SchedTells_k15 : ((Rows.schedTellsRow.mapsOut == Tryz.prog.mapsAmong Tryz.f3.resultTypes.toList)) = true := by kernel_rfl
theorem SchedTells_k16 : ((Rows.schedTellsRow.loops == (Tryz.f3.params.toList ++ Rows.schedTellsSpec.plain.varTypes Tryz.prog).any (Tryz.prog.loopsFrom ·))) = true := by kernel_rfl
theorem SchedTells_k17 : ((Rows.schedTellsRow.wideKeys == (Tryz.f3.params.toList ++ Rows.schedTellsSpec.plain.varTypes Tryz.prog ++ Tryz.f3.resultTypes.toList).any (Tryz.prog.wideKeysFrom ·))) = true := by kernel_rfl
theorem SchedTells_k18 : (Rows.schedTellsSpec.vars.all (Tryz.prog.varReadable ·)) = true := by kernel_rfl
theorem SchedTells_k19 : (Tryz.f3.resultTypes.all (fun t => Tryz.prog.readableRec t && decide (t < Tryz.prog.types.size))) = true := by kernel_rfl
theorem SchedTells_k20 : ((Rows.schedTellsRow.ifacesOut == Tryz.f3.resultTypes.toList.any (Tryz.prog.ifacesRec ·))) = true := by kernel_rfl
theorem SchedTells_k21 : ((Rows.schedTellsRow.loopsOut == Tryz.f3.resultTypes.toList.any (Tryz.prog.loopsFrom ·))) = true := by kernel_rfl
theorem SchedTells_k22 : ((Rows.schedTellsRow.plainKeys == Tryz.prog.plainKeys)) = true := by kernel_rfl
theorem SchedTells_k23 : (Rows.schedTellsRow.shortTexts.isNone) = true := by kernel_rfl
theorem SchedTells_k26 : ((Rows.schedTellsRow.lifted == Tryz.prog.liftsFinal)) = true := by kernel_rfl
theorem SchedTells_k27 : ((Tryz.prog.make == some Rows.schedTellsRow.make)) = true := by kernel_rfl
theorem SchedTells_k28 : ((Rows.schedTellsRow.kinds == (if Rows.schedTellsRow.domain.isEmpty then [] else Tryz.f3.params.toList.map fun t => match Tryz.prog.underlying t with | some (.int k) => some k | _ => none))) = true := by kernel_rfl
theorem SchedTells_k29 : ((Rows.schedTellsRow.pinned == Rows.schedTellsRow.pinnedBy)) = true := by kernel_rfl
theorem SchedTells_k30 : ((Rows.schedTellsRow.veiled == (Tryz.f3.params.toList ++ Rows.schedTellsSpec.plain.varTypes Tryz.prog ++ Tryz.f3.resultTypes.toList).any (Tryz.prog.veiledRec ·))) = true := by kernel_rfl
theorem SchedTells_k31 : (Rows.schedTellsRow.veiledFits Tryz.prog Tryz.f3.params.toList (Tryz.f3.params.toList ++ Rows.schedTellsSpec.plain.varTypes Tryz.prog ++ Tryz.f3.resultTypes.toList)) = true := by kernel_rfl
end Go.Proofs.YtcbafeneaoaglaaGreatDoor
