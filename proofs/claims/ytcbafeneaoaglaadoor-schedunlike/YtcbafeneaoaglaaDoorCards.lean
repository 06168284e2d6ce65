/-
  DERIVED. GIVEN WITH THE SEED: THE CARDS: each row of YtcbafeneaoaglaaDoorRows.lean that lists a variable, with what it lists TIED to the program's text (the seventh form; the later family's looks); each row that meets fmt, with fmt's text TOLD by the authors' own Lean function (tested against real Go, not proved from fmt's source: count such statements apart). THE CARD IS WHAT COUNTS. Prove the row's statement (the work); the ties are given (YtcbafeneaoaglaaDoorTie.lean); close each card by the builder's one call (the guide's Derived/Test/ToyasCard.lean, 'card_holds'). Laid BY PROGRAM, IN A SANDBOX (cutbox-door.mjs). By AI agents, Wed Nov 11 2026. No macro, syntax, notation, axiom, sorry.
-/
import Derived.Test.YtcbafeneaoaglaaDoorRows
import GoSem.ClaimSeven
namespace Go.Proofs.YtcbafeneaoaglaaDoor
namespace Rows

/-- THE TIED CARD OF 'phratrylaw10.SchedUnlike'. -/
def schedUnlikeCard : Claim7 := { stood := { row := schedUnlikeRow, standIns := [], harness := (true, "dd9fa81ddfd9ea3c6db716e9562172578d60f1d4b2ba0a53241fcb808895e4f1"), looks := false }, kinds := [], alts := [], laidByText := true, laidKinds := [.data], laidTests := true, laidLooks := .later }
def SchedUnlikeCardSaid : Prop := Claim7.holds Tryd.pinned (.plain (OpenSpec.ofChange schedUnlikeSpec)) schedUnlikeCard

/-- THE SECOND FORM's CARD OF 'phratrylaw10.SchedUnlike'. -/
def schedUnlikeUptoCard : Claim7 := { stood := { row := schedUnlikeUptoRow, standIns := [], harness := (true, "dd9fa81ddfd9ea3c6db716e9562172578d60f1d4b2ba0a53241fcb808895e4f1"), looks := false }, kinds := [], alts := [], laidByText := true, laidKinds := [.data], laidTests := true, laidLooks := .later }
def SchedUnlikeUptoCardSaid : Prop := Claim7.holds Tryd.pinned (.plain (OpenSpec.upto schedUnlikeSpec)) schedUnlikeUptoCard
end Rows
end Go.Proofs.YtcbafeneaoaglaaDoor
