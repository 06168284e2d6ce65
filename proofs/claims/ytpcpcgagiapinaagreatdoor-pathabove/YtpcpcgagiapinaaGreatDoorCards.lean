/-
  DERIVED. GIVEN WITH THE SEED: THE CARDS: each row of YtpcpcgagiapinaaGreatDoorRows.lean that lists a variable, with what it lists TIED to the program's text (the seventh form; the later family's looks); each row that meets fmt, with fmt's text TOLD by the authors' own Lean function (tested against real Go, not proved from fmt's source: count such statements apart). THE CARD IS WHAT COUNTS. Prove the row's statement (the work); the ties are given (YtpcpcgagiapinaaGreatDoorTie.lean); close each card by the builder's one call (the guide's Derived/Test/ToyasCard.lean, 'card_holds'). Laid BY PROGRAM, IN A SANDBOX (cutbox-door.mjs). By AI agents, Wed Nov 11 2026. No macro, syntax, notation, axiom, sorry.
-/
import Derived.Test.YtpcpcgagiapinaaGreatDoorRows
import GoSem.ClaimSeven
namespace Go.Proofs.YtpcpcgagiapinaaGreatDoor
namespace Rows

/-- THE TIED CARD OF 'phratrylaw09.PathSecrets'. -/
def pathSecretsCard : Claim7 := { stood := { row := pathSecretsRow, standIns := [], harness := (true, "37496ceb99c90e114ec0200b23380ac1d4f4850c3d28ff726f462f6599bdcf1c"), looks := false }, kinds := [], alts := [], laidByText := true, laidKinds := [.data], laidTests := true, laidLooks := .later }
def PathSecretsCardSaid : Prop := Claim7.holds Tryz.pinned (.plain (OpenSpec.ofChange pathSecretsSpec)) pathSecretsCard

/-- THE TIED CARD OF 'phratrylaw09.PathAbove'. -/
def pathAboveCard : Claim7 := { stood := { row := pathAboveRow, standIns := [], harness := (true, "37496ceb99c90e114ec0200b23380ac1d4f4850c3d28ff726f462f6599bdcf1c"), looks := false }, kinds := [], alts := [], laidByText := true, laidKinds := [.data], laidTests := true, laidLooks := .later }
def PathAboveCardSaid : Prop := Claim7.holds Tryz.pinned (.plain (OpenSpec.ofChange pathAboveSpec)) pathAboveCard

/-- THE TIED CARD OF 'phratrylaw09.PathMeets'. -/
def pathMeetsCard : Claim7 := { stood := { row := pathMeetsRow, standIns := [], harness := (true, "37496ceb99c90e114ec0200b23380ac1d4f4850c3d28ff726f462f6599bdcf1c"), looks := false }, kinds := [], alts := [], laidByText := true, laidKinds := [.data], laidTests := true, laidLooks := .later }
def PathMeetsCardSaid : Prop := Claim7.holds Tryz.pinned (.plain (OpenSpec.ofChange pathMeetsSpec)) pathMeetsCard

/-- THE TIED CARD OF 'phratrylaw09.PathShut'. -/
def pathShutCard : Claim7 := { stood := { row := pathShutRow, standIns := [], harness := (true, "37496ceb99c90e114ec0200b23380ac1d4f4850c3d28ff726f462f6599bdcf1c"), looks := false }, kinds := [], alts := [], laidByText := true, laidKinds := [.data], laidTests := true, laidLooks := .later }
def PathShutCardSaid : Prop := Claim7.holds Tryz.pinned (.plain (OpenSpec.ofChange pathShutSpec)) pathShutCard

/-- THE SECOND FORM's CARD OF 'phratrylaw09.PathSecrets'. -/
def pathSecretsUptoCard : Claim7 := { stood := { row := pathSecretsUptoRow, standIns := [], harness := (true, "37496ceb99c90e114ec0200b23380ac1d4f4850c3d28ff726f462f6599bdcf1c"), looks := false }, kinds := [], alts := [], laidByText := true, laidKinds := [.data], laidTests := true, laidLooks := .later }
def PathSecretsUptoCardSaid : Prop := Claim7.holds Tryz.pinned (.plain (OpenSpec.upto pathSecretsSpec)) pathSecretsUptoCard

/-- THE SECOND FORM's CARD OF 'phratrylaw09.PathAbove'. -/
def pathAboveUptoCard : Claim7 := { stood := { row := pathAboveUptoRow, standIns := [], harness := (true, "37496ceb99c90e114ec0200b23380ac1d4f4850c3d28ff726f462f6599bdcf1c"), looks := false }, kinds := [], alts := [], laidByText := true, laidKinds := [.data], laidTests := true, laidLooks := .later }
def PathAboveUptoCardSaid : Prop := Claim7.holds Tryz.pinned (.plain (OpenSpec.upto pathAboveSpec)) pathAboveUptoCard

/-- THE SECOND FORM's CARD OF 'phratrylaw09.PathMeets'. -/
def pathMeetsUptoCard : Claim7 := { stood := { row := pathMeetsUptoRow, standIns := [], harness := (true, "37496ceb99c90e114ec0200b23380ac1d4f4850c3d28ff726f462f6599bdcf1c"), looks := false }, kinds := [], alts := [], laidByText := true, laidKinds := [.data], laidTests := true, laidLooks := .later }
def PathMeetsUptoCardSaid : Prop := Claim7.holds Tryz.pinned (.plain (OpenSpec.upto pathMeetsSpec)) pathMeetsUptoCard

/-- THE SECOND FORM's CARD OF 'phratrylaw09.PathShut'. -/
def pathShutUptoCard : Claim7 := { stood := { row := pathShutUptoRow, standIns := [], harness := (true, "37496ceb99c90e114ec0200b23380ac1d4f4850c3d28ff726f462f6599bdcf1c"), looks := false }, kinds := [], alts := [], laidByText := true, laidKinds := [.data], laidTests := true, laidLooks := .later }
def PathShutUptoCardSaid : Prop := Claim7.holds Tryz.pinned (.plain (OpenSpec.upto pathShutSpec)) pathShutUptoCard
end Rows
end Go.Proofs.YtpcpcgagiapinaaGreatDoor
