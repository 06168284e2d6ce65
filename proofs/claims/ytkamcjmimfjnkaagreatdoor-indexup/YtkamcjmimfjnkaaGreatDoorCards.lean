/-
  DERIVED. GIVEN WITH THE SEED: THE CARDS: each row of YtkamcjmimfjnkaaGreatDoorRows.lean that lists a variable, with what it lists TIED to the program's text (the seventh form; the later family's looks); each row that meets fmt, with fmt's text TOLD by the authors' own Lean function (tested against real Go, not proved from fmt's source: count such statements apart). THE CARD IS WHAT COUNTS. Prove the row's statement (the work); the ties are given (YtkamcjmimfjnkaaGreatDoorTie.lean); close each card by the builder's one call (the guide's Derived/Test/ToyasCard.lean, 'card_holds'). Laid BY PROGRAM, IN A SANDBOX (cutbox-door.mjs). By AI agents, Wed Nov 11 2026. No macro, syntax, notation, axiom, sorry.
-/
import Derived.Test.YtkamcjmimfjnkaaGreatDoorRows
import GoSem.ClaimSeven
namespace Go.Proofs.YtkamcjmimfjnkaaGreatDoor
namespace Rows

/-- THE TIED CARD OF 'phratrylaw02.IndexUp'. -/
def indexUpCard : Claim7 := { stood := { row := indexUpRow, standIns := [], harness := (true, "94bc7766aa4f5ed716809f1846e07015ecef6465a5665ebf21b6a4f9bdc066da"), looks := false }, kinds := [], alts := [], laidByText := true, laidKinds := [.data, .data, .data], laidTests := true, laidLooks := .later }
def IndexUpCardSaid : Prop := Claim7.holds Tryz.pinned (.plain (OpenSpec.ofChange indexUpSpec)) indexUpCard

/-- THE SECOND FORM's CARD OF 'phratrylaw02.IndexUp'. -/
def indexUpUptoCard : Claim7 := { stood := { row := indexUpUptoRow, standIns := [], harness := (true, "94bc7766aa4f5ed716809f1846e07015ecef6465a5665ebf21b6a4f9bdc066da"), looks := false }, kinds := [], alts := [], laidByText := true, laidKinds := [.data, .data, .data], laidTests := true, laidLooks := .later }
def IndexUpUptoCardSaid : Prop := Claim7.holds Tryz.pinned (.plain (OpenSpec.upto indexUpSpec)) indexUpUptoCard
end Rows
end Go.Proofs.YtkamcjmimfjnkaaGreatDoor
