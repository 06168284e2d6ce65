/- Texts joined: RosterCardsF RosterCardsJ. -/
import Derived.Test.YtihniafidgjlcaaGreatDoorJoinedU
/- What the row of RosterCards has closed. -/
namespace Go.Proofs.YtihniafidgjlcaaGreatDoor
open Go.ChangeShapes Go.WideShapes Go.ChangeAt Go.RowKit
theorem RosterCards_k0 : (Rows.rosterCardsRow.wf (OpenSpec.ofChange Rows.rosterCardsSpec)) = true := by kernel_rfl
theorem RosterCards_k3 : (Tryz.f5.params.all (Tryz.prog.readableRec ·)) = true := by kernel_rfl
theorem RosterCards_k4 : (namedTie Tryz.prog Rows.rosterCardsRow.named Rows.rosterCardsSpec.vars) = true := by kernel_rfl
theorem RosterCards_k5 : ((Rows.rosterCardsRow.stops == [])) = true := by kernel_rfl
theorem RosterCards_k7 : ((Rows.rosterCardsRow.knobs == [])) = true := by kernel_rfl
theorem RosterCards_k9 : ((Rows.rosterCardsRow.inPlace == Tryz.prog.inPlace 5)) = true := by kernel_rfl
theorem RosterCards_k10 : ((Rows.rosterCardsRow.unfollowed == Tryz.prog.unfollowed 5)) = true := by kernel_rfl
theorem RosterCards_k11 : ((Rows.rosterCardsRow.recurses == Tryz.prog.recurses 5)) = true := by kernel_rfl
theorem RosterCards_k12 : ((Rows.rosterCardsRow.named == Tryz.prog.varsNamed 5)) = true := by kernel_rfl
theorem RosterCards_k13 : ((Rows.rosterCardsRow.maps == (Tryz.f5.params.toList ++ Rows.rosterCardsSpec.plain.varTypes Tryz.prog).any (Tryz.prog.mapsRec ·))) = true := by kernel_rfl
theorem RosterCards_k14 : ((Rows.rosterCardsRow.ifaces == (Tryz.f5.params.toList ++ Rows.rosterCardsSpec.plain.varTypes Tryz.prog).any (Tryz.prog.ifacesRec ·))) = true := by kernel_rfl
theorem RosterCards_k15 : ((Rows.rosterCardsRow.mapsOut == Tryz.prog.mapsAmong Tryz.f5.resultTypes.toList)) = true := by kernel_rfl
theorem RosterCards_k16 : ((Rows.rosterCardsRow.loops == (Tryz.f5.params.toList ++ Rows.rosterCardsSpec.plain.varTypes Tryz.prog).any (Tryz.prog.loopsFrom ·))) = true := by kernel_rfl
theorem RosterCards_k17 : ((Rows.rosterCardsRow.wideKeys == (Tryz.f5.params.toList ++ Rows.rosterCardsSpec.plain.varTypes Tryz.prog ++ Tryz.f5.resultTypes.toList).any (Tryz.prog.wideKeysFrom ·))) = true := by kernel_rfl
theorem RosterCards_k18 : (Rows.rosterCardsSpec.vars.all (Tryz.prog.varReadable ·)) = true := by kernel_rfl
theorem RosterCards_k19 : (Tryz.f5.resultTypes.all (fun t => Tryz.prog.readableRec t && decide (t < Tryz.prog.types.size))) = true := by kernel_rfl
theorem RosterCards_k20 : ((Rows.rosterCardsRow.ifacesOut == Tryz.f5.resultTypes.toList.any (Tryz.prog.ifacesRec ·))) = true := by kernel_rfl
theorem RosterCards_k21 : ((Rows.rosterCardsRow.loopsOut == Tryz.f5.resultTypes.toList.any (Tryz.prog.loopsFrom ·))) = true := by kernel_rfl
theorem RosterCards_k22 : ((Rows.rosterCardsRow.plainKeys == Tryz.prog.plainKeys)) = true := by kernel_rfl
theorem RosterCards_k23 : (Rows.rosterCardsRow.shortTexts.isNone) = true := by kernel_rfl
theorem RosterCards_k26 : ((Rows.rosterCardsRow.lifted == Tryz.prog.liftsFinal)) = true := by kernel_rfl
theorem RosterCards_k27 : ((Tryz.prog.make == some Rows.rosterCardsRow.make)) = true := by kernel_rfl
theorem RosterCards_k28 : ((Rows.rosterCardsRow.kinds == (if Rows.rosterCardsRow.domain.isEmpty then [] else Tryz.f5.params.toList.map fun t => match Tryz.prog.underlying t with | some (.int k) => some k | _ => none))) = true := by kernel_rfl
theorem RosterCards_k29 : ((Rows.rosterCardsRow.pinned == Rows.rosterCardsRow.pinnedBy)) = true := by kernel_rfl
theorem RosterCards_k30 : ((Rows.rosterCardsRow.veiled == (Tryz.f5.params.toList ++ Rows.rosterCardsSpec.plain.varTypes Tryz.prog ++ Tryz.f5.resultTypes.toList).any (Tryz.prog.veiledRec ·))) = true := by kernel_rfl
theorem RosterCards_k31 : (Rows.rosterCardsRow.veiledFits Tryz.prog Tryz.f5.params.toList (Tryz.f5.params.toList ++ Rows.rosterCardsSpec.plain.varTypes Tryz.prog ++ Tryz.f5.resultTypes.toList)) = true := by kernel_rfl
end Go.Proofs.YtihniafidgjlcaaGreatDoor

/- The row of RosterCards: its closed facts together. -/
namespace Go.Proofs.YtihniafidgjlcaaGreatDoor
open Go.ChangeShapes Go.WideShapes Go.ChangeAt Go.RowKit
set_option maxRecDepth 100000 in
theorem RosterCards_closed : joinedFacts Tryz.prog 5 Tryz.f5 Rows.rosterCardsSpec Rows.rosterCardsRow = true := by
  unfold joinedFacts
  simp only [Bool.and_eq_true]
  exact ⟨⟨⟨⟨⟨⟨⟨⟨⟨⟨⟨⟨⟨⟨⟨⟨⟨⟨⟨⟨⟨⟨⟨⟨⟨⟨⟨⟨⟨⟨⟨RosterCards_k0, closed_k1⟩, closed_k2⟩, RosterCards_k3⟩, RosterCards_k4⟩, RosterCards_k5⟩, closed_k6⟩, RosterCards_k7⟩, closed_k8⟩, RosterCards_k9⟩, RosterCards_k10⟩, RosterCards_k11⟩, RosterCards_k12⟩, RosterCards_k13⟩, RosterCards_k14⟩, RosterCards_k15⟩, RosterCards_k16⟩, RosterCards_k17⟩, RosterCards_k18⟩, RosterCards_k19⟩, RosterCards_k20⟩, RosterCards_k21⟩, RosterCards_k22⟩, RosterCards_k23⟩, closed_k24⟩, closed_k25⟩, RosterCards_k26⟩, RosterCards_k27⟩, RosterCards_k28⟩, RosterCards_k29⟩, RosterCards_k30⟩, RosterCards_k31⟩
end Go.Proofs.YtihniafidgjlcaaGreatDoor
