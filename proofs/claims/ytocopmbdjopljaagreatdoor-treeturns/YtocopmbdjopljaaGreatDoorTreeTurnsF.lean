/- What the row of TreeTurns has closed. -/
import Derived.Test.YtocopmbdjopljaaGreatDoorJoinedU
namespace Go.Proofs.YtocopmbdjopljaaGreatDoor
open Go.ChangeShapes Go.WideShapes Go.ChangeAt Go.RowKit
theorem TreeTurns_k0 : (Rows.treeTurnsRow.wf (OpenSpec.ofChange Rows.treeTurnsSpec)) = true := by kernel_rfl
theorem TreeTurns_k3 : (Tryz.f4.params.all (Tryz.prog.readableRec ·)) = true := by kernel_rfl
theorem TreeTurns_k4 : (namedTie Tryz.prog Rows.treeTurnsRow.named Rows.treeTurnsSpec.vars) = true := by kernel_rfl
theorem TreeTurns_k5 : ((Rows.treeTurnsRow.stops == [])) = true := by kernel_rfl
theorem TreeTurns_k7 : ((Rows.treeTurnsRow.knobs == [])) = true := by kernel_rfl
theorem TreeTurns_k9 : ((Rows.treeTurnsRow.inPlace == Tryz.prog.inPlace 4)) = true := by kernel_rfl
theorem TreeTurns_k10 : ((Rows.treeTurnsRow.unfollowed == Tryz.prog.unfollowed 4)) = true := by kernel_rfl
theorem TreeTurns_k11 : ((Rows.treeTurnsRow.recurses == Tryz.prog.recurses 4)) = true := by kernel_rfl
theorem TreeTurns_k12 : ((Rows.treeTurnsRow.named == Tryz.prog.varsNamed 4)) = true := by kernel_rfl
theorem TreeTurns_k13 : ((Rows.treeTurnsRow.maps == (Tryz.f4.params.toList ++ Rows.treeTurnsSpec.plain.varTypes Tryz.prog).any (Tryz.prog.mapsRec ·))) = true := by kernel_rfl
theorem TreeTurns_k14 : ((Rows.treeTurnsRow.ifaces == (Tryz.f4.params.toList ++ Rows.treeTurnsSpec.plain.varTypes Tryz.prog).any (Tryz.prog.ifacesRec ·))) = true := by kernel_rfl
theorem TreeTurns_k15 : ((Rows.treeTurnsRow.mapsOut == Tryz.prog.mapsAmong Tryz.f4.resultTypes.toList)) = true := by kernel_rfl
theorem TreeTurns_k16 : ((Rows.treeTurnsRow.loops == (Tryz.f4.params.toList ++ Rows.treeTurnsSpec.plain.varTypes Tryz.prog).any (Tryz.prog.loopsFrom ·))) = true := by kernel_rfl
theorem TreeTurns_k17 : ((Rows.treeTurnsRow.wideKeys == (Tryz.f4.params.toList ++ Rows.treeTurnsSpec.plain.varTypes Tryz.prog ++ Tryz.f4.resultTypes.toList).any (Tryz.prog.wideKeysFrom ·))) = true := by kernel_rfl
theorem TreeTurns_k18 : (Rows.treeTurnsSpec.vars.all (Tryz.prog.varReadable ·)) = true := by kernel_rfl
theorem TreeTurns_k19 : (Tryz.f4.resultTypes.all (fun t => Tryz.prog.readableRec t && decide (t < Tryz.prog.types.size))) = true := by kernel_rfl
theorem TreeTurns_k20 : ((Rows.treeTurnsRow.ifacesOut == Tryz.f4.resultTypes.toList.any (Tryz.prog.ifacesRec ·))) = true := by kernel_rfl
theorem TreeTurns_k21 : ((Rows.treeTurnsRow.loopsOut == Tryz.f4.resultTypes.toList.any (Tryz.prog.loopsFrom ·))) = true := by kernel_rfl
theorem TreeTurns_k22 : ((Rows.treeTurnsRow.plainKeys == Tryz.prog.plainKeys)) = true := by kernel_rfl
theorem TreeTurns_k23 : (Rows.treeTurnsRow.shortTexts.isNone) = true := by kernel_rfl
theorem TreeTurns_k26 : ((Rows.treeTurnsRow.lifted == Tryz.prog.liftsFinal)) = true := by kernel_rfl
theorem TreeTurns_k27 : ((Tryz.prog.make == some Rows.treeTurnsRow.make)) = true := by kernel_rfl
theorem TreeTurns_k28 : ((Rows.treeTurnsRow.kinds == (if Rows.treeTurnsRow.domain.isEmpty then [] else Tryz.f4.params.toList.map fun t => match Tryz.prog.underlying t with | some (.int k) => some k | _ => none))) = true := by kernel_rfl
theorem TreeTurns_k29 : ((Rows.treeTurnsRow.pinned == Rows.treeTurnsRow.pinnedBy)) = true := by kernel_rfl
theorem TreeTurns_k30 : ((Rows.treeTurnsRow.veiled == (Tryz.f4.params.toList ++ Rows.treeTurnsSpec.plain.varTypes Tryz.prog ++ Tryz.f4.resultTypes.toList).any (Tryz.prog.veiledRec ·))) = true := by kernel_rfl
theorem TreeTurns_k31 : (Rows.treeTurnsRow.veiledFits Tryz.prog Tryz.f4.params.toList (Tryz.f4.params.toList ++ Rows.treeTurnsSpec.plain.varTypes Tryz.prog ++ Tryz.f4.resultTypes.toList)) = true := by kernel_rfl
end Go.Proofs.YtocopmbdjopljaaGreatDoor
