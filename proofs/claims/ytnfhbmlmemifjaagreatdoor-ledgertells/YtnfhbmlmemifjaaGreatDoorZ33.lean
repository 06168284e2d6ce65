/- Texts joined: LedgerTellsF LedgerTellsJ. -/
import Derived.Test.YtnfhbmlmemifjaaGreatDoorJoinedU
/- What the row of LedgerTells has closed. -/
namespace Go.Proofs.YtnfhbmlmemifjaaGreatDoor
open Go.ChangeShapes Go.WideShapes Go.ChangeAt Go.RowKit
theorem LedgerTells_k0 : (Rows.ledgerTellsRow.wf (OpenSpec.ofChange Rows.ledgerTellsSpec)) = true := by kernel_rfl
theorem LedgerTells_k3 : (Tryz.f3.params.all (Tryz.prog.readableRec ·)) = true := by kernel_rfl
theorem LedgerTells_k4 : (namedTie Tryz.prog Rows.ledgerTellsRow.named Rows.ledgerTellsSpec.vars) = true := by kernel_rfl
theorem LedgerTells_k5 : ((Rows.ledgerTellsRow.stops == [])) = true := by kernel_rfl
theorem LedgerTells_k7 : ((Rows.ledgerTellsRow.knobs == [])) = true := by kernel_rfl
theorem LedgerTells_k9 : ((Rows.ledgerTellsRow.inPlace == Tryz.prog.inPlace 3)) = true := by kernel_rfl
theorem LedgerTells_k10 : ((Rows.ledgerTellsRow.unfollowed == Tryz.prog.unfollowed 3)) = true := by kernel_rfl
theorem LedgerTells_k11 : ((Rows.ledgerTellsRow.recurses == Tryz.prog.recurses 3)) = true := by kernel_rfl
theorem LedgerTells_k12 : ((Rows.ledgerTellsRow.named == Tryz.prog.varsNamed 3)) = true := by kernel_rfl
theorem LedgerTells_k13 : ((Rows.ledgerTellsRow.maps == (Tryz.f3.params.toList ++ Rows.ledgerTellsSpec.plain.varTypes Tryz.prog).any (Tryz.prog.mapsRec ·))) = true := by kernel_rfl
theorem LedgerTells_k14 : ((Rows.ledgerTellsRow.ifaces == (Tryz.f3.params.toList ++ Rows.ledgerTellsSpec.plain.varTypes Tryz.prog).any (Tryz.prog.ifacesRec ·))) = true := by kernel_rfl
theorem LedgerTells_k15 : ((Rows.ledgerTellsRow.mapsOut == Tryz.prog.mapsAmong Tryz.f3.resultTypes.toList)) = true := by kernel_rfl
theorem LedgerTells_k16 : ((Rows.ledgerTellsRow.loops == (Tryz.f3.params.toList ++ Rows.ledgerTellsSpec.plain.varTypes Tryz.prog).any (Tryz.prog.loopsFrom ·))) = true := by kernel_rfl
theorem LedgerTells_k17 : ((Rows.ledgerTellsRow.wideKeys == (Tryz.f3.params.toList ++ Rows.ledgerTellsSpec.plain.varTypes Tryz.prog ++ Tryz.f3.resultTypes.toList).any (Tryz.prog.wideKeysFrom ·))) = true := by kernel_rfl
theorem LedgerTells_k18 : (Rows.ledgerTellsSpec.vars.all (Tryz.prog.varReadable ·)) = true := by kernel_rfl
theorem LedgerTells_k19 : (Tryz.f3.resultTypes.all (fun t => Tryz.prog.readableRec t && decide (t < Tryz.prog.types.size))) = true := by kernel_rfl
theorem LedgerTells_k20 : ((Rows.ledgerTellsRow.ifacesOut == Tryz.f3.resultTypes.toList.any (Tryz.prog.ifacesRec ·))) = true := by kernel_rfl
theorem LedgerTells_k21 : ((Rows.ledgerTellsRow.loopsOut == Tryz.f3.resultTypes.toList.any (Tryz.prog.loopsFrom ·))) = true := by kernel_rfl
theorem LedgerTells_k22 : ((Rows.ledgerTellsRow.plainKeys == Tryz.prog.plainKeys)) = true := by kernel_rfl
theorem LedgerTells_k23 : (Rows.ledgerTellsRow.shortTexts.isNone) = true := by kernel_rfl
theorem LedgerTells_k26 : ((Rows.ledgerTellsRow.lifted == Tryz.prog.liftsFinal)) = true := by kernel_rfl
theorem LedgerTells_k27 : ((Tryz.prog.make == some Rows.ledgerTellsRow.make)) = true := by kernel_rfl
theorem LedgerTells_k28 : ((Rows.ledgerTellsRow.kinds == (if Rows.ledgerTellsRow.domain.isEmpty then [] else Tryz.f3.params.toList.map fun t => match Tryz.prog.underlying t with | some (.int k) => some k | _ => none))) = true := by kernel_rfl
theorem LedgerTells_k29 : ((Rows.ledgerTellsRow.pinned == Rows.ledgerTellsRow.pinnedBy)) = true := by kernel_rfl
theorem LedgerTells_k30 : ((Rows.ledgerTellsRow.veiled == (Tryz.f3.params.toList ++ Rows.ledgerTellsSpec.plain.varTypes Tryz.prog ++ Tryz.f3.resultTypes.toList).any (Tryz.prog.veiledRec ·))) = true := by kernel_rfl
theorem LedgerTells_k31 : (Rows.ledgerTellsRow.veiledFits Tryz.prog Tryz.f3.params.toList (Tryz.f3.params.toList ++ Rows.ledgerTellsSpec.plain.varTypes Tryz.prog ++ Tryz.f3.resultTypes.toList)) = true := by kernel_rfl
end Go.Proofs.YtnfhbmlmemifjaaGreatDoor

/- The row of LedgerTells: its closed facts together. -/
namespace Go.Proofs.YtnfhbmlmemifjaaGreatDoor
open Go.ChangeShapes Go.WideShapes Go.ChangeAt Go.RowKit
set_option maxRecDepth 100000 in
theorem LedgerTells_closed : joinedFacts Tryz.prog 3 Tryz.f3 Rows.ledgerTellsSpec Rows.ledgerTellsRow = true := by
  unfold joinedFacts
  simp only [Bool.and_eq_true]
  exact ⟨⟨⟨⟨⟨⟨⟨⟨⟨⟨⟨⟨⟨⟨⟨⟨⟨⟨⟨⟨⟨⟨⟨⟨⟨⟨⟨⟨⟨⟨⟨LedgerTells_k0, closed_k1⟩, closed_k2⟩, LedgerTells_k3⟩, LedgerTells_k4⟩, LedgerTells_k5⟩, closed_k6⟩, LedgerTells_k7⟩, closed_k8⟩, LedgerTells_k9⟩, LedgerTells_k10⟩, LedgerTells_k11⟩, LedgerTells_k12⟩, LedgerTells_k13⟩, LedgerTells_k14⟩, LedgerTells_k15⟩, LedgerTells_k16⟩, LedgerTells_k17⟩, LedgerTells_k18⟩, LedgerTells_k19⟩, LedgerTells_k20⟩, LedgerTells_k21⟩, LedgerTells_k22⟩, LedgerTells_k23⟩, closed_k24⟩, closed_k25⟩, LedgerTells_k26⟩, LedgerTells_k27⟩, LedgerTells_k28⟩, LedgerTells_k29⟩, LedgerTells_k30⟩, LedgerTells_k31⟩
end Go.Proofs.YtnfhbmlmemifjaaGreatDoor
