/- Texts joined: ChainPlaysF ChainPlaysJ. -/
import Derived.Test.YtkaioidneknmjaaGreatDoorJoinedU
/- What the row of ChainPlays has closed. -/
namespace Go.Proofs.YtkaioidneknmjaaGreatDoor
open Go.ChangeShapes Go.WideShapes Go.ChangeAt Go.RowKit
theorem ChainPlays_k0 : (Rows.chainPlaysRow.wf (OpenSpec.ofChange Rows.chainPlaysSpec)) = true := by kernel_rfl
theorem ChainPlays_k3 : (Tryz.f3.params.all (Tryz.prog.readableRec ·)) = true := by kernel_rfl
theorem ChainPlays_k4 : (namedTie Tryz.prog Rows.chainPlaysRow.named Rows.chainPlaysSpec.vars) = true := by kernel_rfl
theorem ChainPlays_k5 : ((Rows.chainPlaysRow.stops == [])) = true := by kernel_rfl
theorem ChainPlays_k7 : ((Rows.chainPlaysRow.knobs == [])) = true := by kernel_rfl
theorem ChainPlays_k9 : ((Rows.chainPlaysRow.inPlace == Tryz.prog.inPlace 3)) = true := by kernel_rfl
theorem ChainPlays_k10 : ((Rows.chainPlaysRow.unfollowed == Tryz.prog.unfollowed 3)) = true := by kernel_rfl
theorem ChainPlays_k11 : ((Rows.chainPlaysRow.recurses == Tryz.prog.recurses 3)) = true := by kernel_rfl
theorem ChainPlays_k12 : ((Rows.chainPlaysRow.named == Tryz.prog.varsNamed 3)) = true := by kernel_rfl
theorem ChainPlays_k13 : ((Rows.chainPlaysRow.maps == (Tryz.f3.params.toList ++ Rows.chainPlaysSpec.plain.varTypes Tryz.prog).any (Tryz.prog.mapsRec ·))) = true := by kernel_rfl
theorem ChainPlays_k14 : ((Rows.chainPlaysRow.ifaces == (Tryz.f3.params.toList ++ Rows.chainPlaysSpec.plain.varTypes Tryz.prog).any (Tryz.prog.ifacesRec ·))) = true := by kernel_rfl
theorem ChainPlays_k15 : ((Rows.chainPlaysRow.mapsOut == Tryz.prog.mapsAmong Tryz.f3.resultTypes.toList)) = true := by kernel_rfl
theorem ChainPlays_k16 : ((Rows.chainPlaysRow.loops == (Tryz.f3.params.toList ++ Rows.chainPlaysSpec.plain.varTypes Tryz.prog).any (Tryz.prog.loopsFrom ·))) = true := by kernel_rfl
theorem ChainPlays_k17 : ((Rows.chainPlaysRow.wideKeys == (Tryz.f3.params.toList ++ Rows.chainPlaysSpec.plain.varTypes Tryz.prog ++ Tryz.f3.resultTypes.toList).any (Tryz.prog.wideKeysFrom ·))) = true := by kernel_rfl
theorem ChainPlays_k18 : (Rows.chainPlaysSpec.vars.all (Tryz.prog.varReadable ·)) = true := by kernel_rfl
theorem ChainPlays_k19 : (Tryz.f3.resultTypes.all (fun t => Tryz.prog.readableRec t && decide (t < Tryz.prog.types.size))) = true := by kernel_rfl
theorem ChainPlays_k20 : ((Rows.chainPlaysRow.ifacesOut == Tryz.f3.resultTypes.toList.any (Tryz.prog.ifacesRec ·))) = true := by kernel_rfl
theorem ChainPlays_k21 : ((Rows.chainPlaysRow.loopsOut == Tryz.f3.resultTypes.toList.any (Tryz.prog.loopsFrom ·))) = true := by kernel_rfl
theorem ChainPlays_k22 : ((Rows.chainPlaysRow.plainKeys == Tryz.prog.plainKeys)) = true := by kernel_rfl
theorem ChainPlays_k23 : (Rows.chainPlaysRow.shortTexts.isNone) = true := by kernel_rfl
theorem ChainPlays_k26 : ((Rows.chainPlaysRow.lifted == Tryz.prog.liftsFinal)) = true := by kernel_rfl
theorem ChainPlays_k27 : ((Tryz.prog.make == some Rows.chainPlaysRow.make)) = true := by kernel_rfl
theorem ChainPlays_k28 : ((Rows.chainPlaysRow.kinds == (if Rows.chainPlaysRow.domain.isEmpty then [] else Tryz.f3.params.toList.map fun t => match Tryz.prog.underlying t with | some (.int k) => some k | _ => none))) = true := by kernel_rfl
theorem ChainPlays_k29 : ((Rows.chainPlaysRow.pinned == Rows.chainPlaysRow.pinnedBy)) = true := by kernel_rfl
theorem ChainPlays_k30 : ((Rows.chainPlaysRow.veiled == (Tryz.f3.params.toList ++ Rows.chainPlaysSpec.plain.varTypes Tryz.prog ++ Tryz.f3.resultTypes.toList).any (Tryz.prog.veiledRec ·))) = true := by kernel_rfl
theorem ChainPlays_k31 : (Rows.chainPlaysRow.veiledFits Tryz.prog Tryz.f3.params.toList (Tryz.f3.params.toList ++ Rows.chainPlaysSpec.plain.varTypes Tryz.prog ++ Tryz.f3.resultTypes.toList)) = true := by kernel_rfl
end Go.Proofs.YtkaioidneknmjaaGreatDoor

/- The row of ChainPlays: its closed facts together. -/
namespace Go.Proofs.YtkaioidneknmjaaGreatDoor
open Go.ChangeShapes Go.WideShapes Go.ChangeAt Go.RowKit
set_option maxRecDepth 100000 in
theorem ChainPlays_closed : joinedFacts Tryz.prog 3 Tryz.f3 Rows.chainPlaysSpec Rows.chainPlaysRow = true := by
  unfold joinedFacts
  simp only [Bool.and_eq_true]
  exact ⟨⟨⟨⟨⟨⟨⟨⟨⟨⟨⟨⟨⟨⟨⟨⟨⟨⟨⟨⟨⟨⟨⟨⟨⟨⟨⟨⟨⟨⟨⟨ChainPlays_k0, closed_k1⟩, closed_k2⟩, ChainPlays_k3⟩, ChainPlays_k4⟩, ChainPlays_k5⟩, closed_k6⟩, ChainPlays_k7⟩, closed_k8⟩, ChainPlays_k9⟩, ChainPlays_k10⟩, ChainPlays_k11⟩, ChainPlays_k12⟩, ChainPlays_k13⟩, ChainPlays_k14⟩, ChainPlays_k15⟩, ChainPlays_k16⟩, ChainPlays_k17⟩, ChainPlays_k18⟩, ChainPlays_k19⟩, ChainPlays_k20⟩, ChainPlays_k21⟩, ChainPlays_k22⟩, ChainPlays_k23⟩, closed_k24⟩, closed_k25⟩, ChainPlays_k26⟩, ChainPlays_k27⟩, ChainPlays_k28⟩, ChainPlays_k29⟩, ChainPlays_k30⟩, ChainPlays_k31⟩
end Go.Proofs.YtkaioidneknmjaaGreatDoor
