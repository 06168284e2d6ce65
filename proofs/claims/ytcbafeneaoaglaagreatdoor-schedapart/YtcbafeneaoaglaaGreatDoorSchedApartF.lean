/- What the row of SchedApart has closed. -/
import Derived.Test.YtcbafeneaoaglaaGreatDoorJoinedU
namespace Go.Proofs.YtcbafeneaoaglaaGreatDoor
open Go.ChangeShapes Go.WideShapes Go.ChangeAt Go.RowKit
theorem SchedApart_k0 : (Rows.schedApartRow.wf (OpenSpec.ofChange Rows.schedApartSpec)) = true := by kernel_rfl
theorem SchedApart_k3 : (Tryz.f4.params.all (Tryz.prog.readableRec ·)) = true := by kernel_rfl
theorem SchedApart_k4 : (namedTie Tryz.prog Rows.schedApartRow.named Rows.schedApartSpec.vars) = true := by kernel_rfl
theorem SchedApart_k5 : ((Rows.schedApartRow.stops == [])) = true := by kernel_rfl
theorem SchedApart_k7 : ((Rows.schedApartRow.knobs == [])) = true := by kernel_rfl
theorem SchedApart_k9 : ((Rows.schedApartRow.inPlace == Tryz.prog.inPlace 4)) = true := by kernel_rfl
theorem SchedApart_k10 : ((Rows.schedApartRow.unfollowed == Tryz.prog.unfollowed 4)) = true := by kernel_rfl
theorem SchedApart_k11 : ((Rows.schedApartRow.recurses == Tryz.prog.recurses 4)) = true := by kernel_rfl
theorem SchedApart_k12 : ((Rows.schedApartRow.named == Tryz.prog.varsNamed 4)) = true := by kernel_rfl
theorem SchedApart_k13 : ((Rows.schedApartRow.maps == (Tryz.f4.params.toList ++ Rows.schedApartSpec.plain.varTypes Tryz.prog).any (Tryz.prog.mapsRec ·))) = true := by kernel_rfl
theorem SchedApart_k14 : ((Rows.schedApartRow.ifaces == (Tryz.f4.params.toList ++ Rows.schedApartSpec.plain.varTypes Tryz.prog).any (Tryz.prog.ifacesRec ·))) = true := by kernel_rfl
theorem SchedApart_k15 : ((Rows.schedApartRow.mapsOut == Tryz.prog.mapsAmong Tryz.f4.resultTypes.toList)) = true := by kernel_rfl
theorem SchedApart_k16 : ((Rows.schedApartRow.loops == (Tryz.f4.params.toList ++ Rows.schedApartSpec.plain.varTypes Tryz.prog).any (Tryz.prog.loopsFrom ·))) = true := by kernel_rfl
theorem SchedApart_k17 : ((Rows.schedApartRow.wideKeys == (Tryz.f4.params.toList ++ Rows.schedApartSpec.plain.varTypes Tryz.prog ++ Tryz.f4.resultTypes.toList).any (Tryz.prog.wideKeysFrom ·))) = true := by kernel_rfl
theorem SchedApart_k18 : (Rows.schedApartSpec.vars.all (Tryz.prog.varReadable ·)) = true := by kernel_rfl
theorem SchedApart_k19 : (Tryz.f4.resultTypes.all (fun t => Tryz.prog.readableRec t && decide (t < Tryz.prog.types.size))) = true := by kernel_rfl
theorem SchedApart_k20 : ((Rows.schedApartRow.ifacesOut == Tryz.f4.resultTypes.toList.any (Tryz.prog.ifacesRec ·))) = true := by kernel_rfl
theorem SchedApart_k21 : ((Rows.schedApartRow.loopsOut == Tryz.f4.resultTypes.toList.any (Tryz.prog.loopsFrom ·))) = true := by kernel_rfl
theorem SchedApart_k22 : ((Rows.schedApartRow.plainKeys == Tryz.prog.plainKeys)) = true := by kernel_rfl
theorem SchedApart_k23 : (Rows.schedApartRow.shortTexts.isNone) = true := by kernel_rfl
theorem SchedApart_k26 : ((Rows.schedApartRow.lifted == Tryz.prog.liftsFinal)) = true := by kernel_rfl
theorem SchedApart_k27 : ((Tryz.prog.make == some Rows.schedApartRow.make)) = true := by kernel_rfl
theorem SchedApart_k28 : ((Rows.schedApartRow.kinds == (if Rows.schedApartRow.domain.isEmpty then [] else Tryz.f4.params.toList.map fun t => match Tryz.prog.underlying t with | some (.int k) => some k | _ => none))) = true := by kernel_rfl
theorem SchedApart_k29 : ((Rows.schedApartRow.pinned == Rows.schedApartRow.pinnedBy)) = true := by kernel_rfl
theorem SchedApart_k30 : ((Rows.schedApartRow.veiled == (Tryz.f4.params.toList ++ Rows.schedApartSpec.plain.varTypes Tryz.prog ++ Tryz.f4.resultTypes.toList).any (Tryz.prog.veiledRec ·))) = true := by kernel_rfl
theorem SchedApart_k31 : (Rows.schedApartRow.veiledFits Tryz.prog Tryz.f4.params.toList (Tryz.f4.params.toList ++ Rows.schedApartSpec.plain.varTypes Tryz.prog ++ Tryz.f4.resultTypes.toList)) = true := by kernel_rfl
end Go.Proofs.YtcbafeneaoaglaaGreatDoor
