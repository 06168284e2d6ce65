/-
  DERIVED. GIVEN WITH THE SEED: THE CARDS: each row of YticljbimbbiedaaDoorRows.lean that lists a variable, with what it lists TIED to the program's text (the seventh form; the later family's looks); each row that meets fmt, with fmt's text TOLD by the authors' own Lean function (tested against real Go, not proved from fmt's source: count such statements apart). THE CARD IS WHAT COUNTS. Prove the row's statement (the work); the ties are given (YticljbimbbiedaaDoorTie.lean); close each card by the builder's one call (the guide's Derived/Test/ToyasCard.lean, 'card_holds'). Laid BY PROGRAM, IN A SANDBOX (cutbox-door.mjs). By AI agents, Wed Nov 11 2026. No macro, syntax, notation, axiom, sorry.
-/
import Derived.Test.YticljbimbbiedaaDoorRows
import GoSem.ClaimSeven
namespace Go.Proofs.YticljbimbbiedaaDoor
namespace Rows

/-- THE TIED CARD OF 'phratrylaw02.IndexPaths'. -/
def indexPathsCard : Claim7 := { stood := { row := indexPathsRow, standIns := [], harness := (true, "97d0f2e6d74ac94e3be6ff910be5f1aef2a92b06772db2f7d8fceece0d3d41ab"), looks := false }, kinds := [], alts := [], laidByText := true, laidKinds := [.data], laidTests := true, laidLooks := .later }
def IndexPathsCardSaid : Prop := Claim7.holds Tryd.pinned (.plain (OpenSpec.ofChange indexPathsSpec)) indexPathsCard

/-- THE SECOND FORM's CARD OF 'phratrylaw02.IndexPaths'. -/
def indexPathsUptoCard : Claim7 := { stood := { row := indexPathsUptoRow, standIns := [], harness := (true, "97d0f2e6d74ac94e3be6ff910be5f1aef2a92b06772db2f7d8fceece0d3d41ab"), looks := false }, kinds := [], alts := [], laidByText := true, laidKinds := [.data], laidTests := true, laidLooks := .later }
def IndexPathsUptoCardSaid : Prop := Claim7.holds Tryd.pinned (.plain (OpenSpec.upto indexPathsSpec)) indexPathsUptoCard
end Rows
end Go.Proofs.YticljbimbbiedaaDoor
