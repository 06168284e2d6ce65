/- Texts joined: LedgerAppendsF LedgerAppendsJ. -/
import Derived.Test.YtnfhbmlmemifjaaGreatDoorJoinedU
/- What the row of LedgerAppends has closed. -/
namespace Go.Proofs.YtnfhbmlmemifjaaGreatDoor
open Go.ChangeShapes Go.WideShapes Go.ChangeAt Go.RowKit
theorem LedgerAppends_k0 : (Rows.ledgerAppendsRow.wf (OpenSpec.ofChange Rows.ledgerAppendsSpec)) = true := by kernel_rfl
theorem LedgerAppends_k3 : (Tryz.f4.params.all (Tryz.prog.readableRec ·)) = true := by kernel_rfl
theorem LedgerAppends_k4 : (namedTie Tryz.prog Rows.ledgerAppendsRow.named Rows.ledgerAppendsSpec.vars) = true := by kernel_rfl
theorem LedgerAppends_k5 : ((Rows.ledgerAppendsRow.stops == [])) = true := by kernel_rfl
theorem LedgerAppends_k7 : ((Rows.ledgerAppendsRow.knobs == [])) = true := by kernel_rfl
theorem LedgerAppends_k9 : ((Rows.ledgerAppendsRow.inPlace == Tryz.prog.inPlace 4)) = true := by kernel_rfl
theorem LedgerAppends_k10 : ((Rows.ledgerAppendsRow.unfollowed == Tryz.prog.unfollowed 4)) = true := by kernel_rfl
theorem LedgerAppends_k11 : ((Rows.ledgerAppendsRow.recurses == Tryz.prog.recurses 4)) = true := by kernel_rfl
theorem LedgerAppends_k12 : ((Rows.ledgerAppendsRow.named == Tryz.prog.varsNamed 4)) = true := by kernel_rfl
theorem LedgerAppends_k13 : ((Rows.ledgerAppendsRow.maps == (Tryz.f4.params.toList ++ Rows.ledgerAppendsSpec.plain.varTypes Tryz.prog).any (Tryz.prog.mapsRec ·))) = true := by kernel_rfl
theorem LedgerAppends_k14 : ((Rows.ledgerAppendsRow.ifaces == (Tryz.f4.params.toList ++ Rows.ledgerAppendsSpec.plain.varTypes Tryz.prog).any (Tryz.prog.ifacesRec ·))) = true := by kernel_rfl
theorem LedgerAppends_k15 : ((Rows.ledgerAppendsRow.mapsOut == Tryz.prog.mapsAmong Tryz.f4.resultTypes.toList)) = true := by kernel_rfl
theorem LedgerAppends_k16 : ((Rows.ledgerAppendsRow.loops == (Tryz.f4.params.toList ++ Rows.ledgerAppendsSpec.plain.varTypes Tryz.prog).any (Tryz.prog.loopsFrom ·))) = true := by kernel_rfl
theorem LedgerAppends_k17 : ((Rows.ledgerAppendsRow.wideKeys == (Tryz.f4.params.toList ++ Rows.ledgerAppendsSpec.plain.varTypes Tryz.prog ++ Tryz.f4.resultTypes.toList).any (Tryz.prog.wideKeysFrom ·))) = true := by kernel_rfl
theorem LedgerAppends_k18 : (Rows.ledgerAppendsSpec.vars.all (Tryz.prog.varReadable ·)) = true := by kernel_rfl
theorem LedgerAppends_k19 : (Tryz.f4.resultTypes.all (fun t => Tryz.prog.readableRec t && decide (t < Tryz.prog.types.size))) = true := by kernel_rfl
theorem LedgerAppends_k20 : ((Rows.ledgerAppendsRow.ifacesOut == Tryz.f4.resultTypes.toList.any (Tryz.prog.ifacesRec ·))) = true := by kernel_rfl
theorem LedgerAppends_k21 : ((Rows.ledgerAppendsRow.loopsOut == Tryz.f4.resultTypes.toList.any (Tryz.prog.loopsFrom ·))) = true := by kernel_rfl
theorem LedgerAppends_k22 : ((Rows.ledgerAppendsRow.plainKeys == Tryz.prog.plainKeys)) = true := by kernel_rfl
theorem LedgerAppends_k23 : (Rows.ledgerAppendsRow.shortTexts.isNone) = true := by kernel_rfl
theorem LedgerAppends_k26 : ((Rows.ledgerAppendsRow.lifted == Tryz.prog.liftsFinal)) = true := by kernel_rfl
theorem LedgerAppends_k27 : ((Tryz.prog.make == some Rows.ledgerAppendsRow.make)) = true := by kernel_rfl
theorem LedgerAppends_k28 : ((Rows.ledgerAppendsRow.kinds == (if Rows.ledgerAppendsRow.domain.isEmpty then [] else Tryz.f4.params.toList.map fun t => match Tryz.prog.underlying t with | some (.int k) => some k | _ => none))) = true := by kernel_rfl
theorem LedgerAppends_k29 : ((Rows.ledgerAppendsRow.pinned == Rows.ledgerAppendsRow.pinnedBy)) = true := by kernel_rfl
theorem LedgerAppends_k30 : ((Rows.ledgerAppendsRow.veiled == (Tryz.f4.params.toList ++ Rows.ledgerAppendsSpec.plain.varTypes Tryz.prog ++ Tryz.f4.resultTypes.toList).any (Tryz.prog.veiledRec ·))) = true := by kernel_rfl
theorem LedgerAppends_k31 : (Rows.ledgerAppendsRow.veiledFits Tryz.prog Tryz.f4.params.toList (Tryz.f4.params.toList ++ Rows.ledgerAppendsSpec.plain.varTypes Tryz.prog ++ Tryz.f4.resultTypes.toList)) = true := by kernel_rfl
end Go.Proofs.YtnfhbmlmemifjaaGreatDoor

/- The row of LedgerAppends: its closed facts together. -/
namespace Go.Proofs.YtnfhbmlmemifjaaGreatDoor
open Go.ChangeShapes Go.WideShapes Go.ChangeAt Go.RowKit
set_option maxRecDepth 100000 in
theorem LedgerAppends_closed : joinedFacts Tryz.prog 4 Tryz.f4 Rows.ledgerAppendsSpec Rows.ledgerAppendsRow = true := by
  unfold joinedFacts
  simp only [Bool.and_eq_true]
  exact ⟨⟨⟨⟨⟨⟨⟨⟨⟨⟨⟨⟨⟨⟨⟨⟨⟨⟨⟨⟨⟨⟨⟨⟨⟨⟨⟨⟨⟨⟨⟨LedgerAppends_k0, closed_k1⟩, closed_k2⟩, LedgerAppends_k3⟩, LedgerAppends_k4⟩, LedgerAppends_k5⟩, closed_k6⟩, LedgerAppends_k7⟩, closed_k8⟩, LedgerAppends_k9⟩, LedgerAppends_k10⟩, LedgerAppends_k11⟩, LedgerAppends_k12⟩, LedgerAppends_k13⟩, LedgerAppends_k14⟩, LedgerAppends_k15⟩, LedgerAppends_k16⟩, LedgerAppends_k17⟩, LedgerAppends_k18⟩, LedgerAppends_k19⟩, LedgerAppends_k20⟩, LedgerAppends_k21⟩, LedgerAppends_k22⟩, LedgerAppends_k23⟩, closed_k24⟩, closed_k25⟩, LedgerAppends_k26⟩, LedgerAppends_k27⟩, LedgerAppends_k28⟩, LedgerAppends_k29⟩, LedgerAppends_k30⟩, LedgerAppends_k31⟩
end Go.Proofs.YtnfhbmlmemifjaaGreatDoor
