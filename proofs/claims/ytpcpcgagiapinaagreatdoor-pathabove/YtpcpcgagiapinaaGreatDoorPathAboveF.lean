/- What the row of PathAbove has closed. -/
import Derived.Test.YtpcpcgagiapinaaGreatDoorJoinedU
namespace Go.Proofs.YtpcpcgagiapinaaGreatDoor
open Go.ChangeShapes Go.WideShapes Go.ChangeAt Go.RowKit
theorem PathAbove_k0 : (Rows.pathAboveRow.wf (OpenSpec.ofChange Rows.pathAboveSpec)) = true := by kernel_rfl
theorem PathAbove_k3 : (Tryz.f4.params.all (Tryz.prog.readableRec ·)) = true := by kernel_rfl
theorem PathAbove_k4 : (namedTie Tryz.prog Rows.pathAboveRow.named Rows.pathAboveSpec.vars) = true := by kernel_rfl
theorem PathAbove_k5 : ((Rows.pathAboveRow.stops == [])) = true := by kernel_rfl
theorem PathAbove_k7 : ((Rows.pathAboveRow.knobs == [])) = true := by kernel_rfl
theorem PathAbove_k9 : ((Rows.pathAboveRow.inPlace == Tryz.prog.inPlace 4)) = true := by kernel_rfl
theorem PathAbove_k10 : ((Rows.pathAboveRow.unfollowed == Tryz.prog.unfollowed 4)) = true := by kernel_rfl
theorem PathAbove_k11 : ((Rows.pathAboveRow.recurses == Tryz.prog.recurses 4)) = true := by kernel_rfl
theorem PathAbove_k12 : ((Rows.pathAboveRow.named == Tryz.prog.varsNamed 4)) = true := by kernel_rfl
theorem PathAbove_k13 : ((Rows.pathAboveRow.maps == (Tryz.f4.params.toList ++ Rows.pathAboveSpec.plain.varTypes Tryz.prog).any (Tryz.prog.mapsRec ·))) = true := by kernel_rfl
theorem PathAbove_k14 : ((Rows.pathAboveRow.ifaces == (Tryz.f4.params.toList ++ Rows.pathAboveSpec.plain.varTypes Tryz.prog).any (Tryz.prog.ifacesRec ·))) = true := by kernel_rfl
theorem PathAbove_k15 : ((Rows.pathAboveRow.mapsOut == Tryz.prog.mapsAmong Tryz.f4.resultTypes.toList)) = true := by kernel_rfl
theorem PathAbove_k16 : ((Rows.pathAboveRow.loops == (Tryz.f4.params.toList ++ Rows.pathAboveSpec.plain.varTypes Tryz.prog).any (Tryz.prog.loopsFrom ·))) = true := by kernel_rfl
theorem PathAbove_k17 : ((Rows.pathAboveRow.wideKeys == (Tryz.f4.params.toList ++ Rows.pathAboveSpec.plain.varTypes Tryz.prog ++ Tryz.f4.resultTypes.toList).any (Tryz.prog.wideKeysFrom ·))) = true := by kernel_rfl
theorem PathAbove_k18 : (Rows.pathAboveSpec.vars.all (Tryz.prog.varReadable ·)) = true := by kernel_rfl
theorem PathAbove_k19 : (Tryz.f4.resultTypes.all (fun t => Tryz.prog.readableRec t && decide (t < Tryz.prog.types.size))) = true := by kernel_rfl
theorem PathAbove_k20 : ((Rows.pathAboveRow.ifacesOut == Tryz.f4.resultTypes.toList.any (Tryz.prog.ifacesRec ·))) = true := by kernel_rfl
theorem PathAbove_k21 : ((Rows.pathAboveRow.loopsOut == Tryz.f4.resultTypes.toList.any (Tryz.prog.loopsFrom ·))) = true := by kernel_rfl
theorem PathAbove_k22 : ((Rows.pathAboveRow.plainKeys == Tryz.prog.plainKeys)) = true := by kernel_rfl
theorem PathAbove_k23 : (Rows.pathAboveRow.shortTexts.isNone) = true := by kernel_rfl
theorem PathAbove_k26 : ((Rows.pathAboveRow.lifted == Tryz.prog.liftsFinal)) = true := by kernel_rfl
theorem PathAbove_k27 : ((Tryz.prog.make == some Rows.pathAboveRow.make)) = true := by kernel_rfl
theorem PathAbove_k28 : ((Rows.pathAboveRow.kinds == (if Rows.pathAboveRow.domain.isEmpty then [] else Tryz.f4.params.toList.map fun t => match Tryz.prog.underlying t with | some (.int k) => some k | _ => none))) = true := by kernel_rfl
theorem PathAbove_k29 : ((Rows.pathAboveRow.pinned == Rows.pathAboveRow.pinnedBy)) = true := by kernel_rfl
theorem PathAbove_k30 : ((Rows.pathAboveRow.veiled == (Tryz.f4.params.toList ++ Rows.pathAboveSpec.plain.varTypes Tryz.prog ++ Tryz.f4.resultTypes.toList).any (Tryz.prog.veiledRec ·))) = true := by kernel_rfl
theorem PathAbove_k31 : (Rows.pathAboveRow.veiledFits Tryz.prog Tryz.f4.params.toList (Tryz.f4.params.toList ++ Rows.pathAboveSpec.plain.varTypes Tryz.prog ++ Tryz.f4.resultTypes.toList)) = true := by kernel_rfl
end Go.Proofs.YtpcpcgagiapinaaGreatDoor
