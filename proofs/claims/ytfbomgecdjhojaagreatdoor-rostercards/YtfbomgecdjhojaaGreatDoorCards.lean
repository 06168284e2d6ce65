/-
  DERIVED. GIVEN WITH THE SEED: THE CARDS: each row of YtfbomgecdjhojaaGreatDoorRows.lean that lists a variable, with what it lists TIED to the program's text (the seventh form; the later family's looks); each row that meets fmt, with fmt's text TOLD by the authors' own Lean function (tested against real Go, not proved from fmt's source: count such statements apart). THE CARD IS WHAT COUNTS. Prove the row's statement (the work); the ties are given (YtfbomgecdjhojaaGreatDoorTie.lean); close each card by the builder's one call (the guide's Derived/Test/ToyasCard.lean, 'card_holds'). Laid BY PROGRAM, IN A SANDBOX (cutbox-door.mjs). By AI agents, Wed Nov 11 2026. No macro, syntax, notation, axiom, sorry.
-/
import Derived.Test.YtfbomgecdjhojaaGreatDoorRows
import GoSem.ClaimSeven
namespace Go.Proofs.YtfbomgecdjhojaaGreatDoor
namespace Rows

/-- THE TIED CARD OF 'phratrylaw16.RosterCards'. -/
def rosterCardsCard : Claim7 := { stood := { row := rosterCardsRow, standIns := [], harness := (true, "1ae5b5e3e2d07633071dded76db66123c49ea16146b709f8d035be0f1c6a0c8c"), looks := false }, kinds := [], alts := [], laidByText := true, laidKinds := [.data, .data, .data], laidTests := true, laidLooks := .later }
def RosterCardsCardSaid : Prop := Claim7.holds Tryz.pinned (.plain (OpenSpec.ofChange rosterCardsSpec)) rosterCardsCard

/-- THE SECOND FORM's CARD OF 'phratrylaw16.RosterCards'. -/
def rosterCardsUptoCard : Claim7 := { stood := { row := rosterCardsUptoRow, standIns := [], harness := (true, "1ae5b5e3e2d07633071dded76db66123c49ea16146b709f8d035be0f1c6a0c8c"), looks := false }, kinds := [], alts := [], laidByText := true, laidKinds := [.data, .data, .data], laidTests := true, laidLooks := .later }
def RosterCardsUptoCardSaid : Prop := Claim7.holds Tryz.pinned (.plain (OpenSpec.upto rosterCardsSpec)) rosterCardsUptoCard
end Rows
end Go.Proofs.YtfbomgecdjhojaaGreatDoor
