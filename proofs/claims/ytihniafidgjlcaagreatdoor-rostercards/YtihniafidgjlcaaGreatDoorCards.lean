/-
  DERIVED. GIVEN WITH THE SEED: THE CARDS: each row of YtihniafidgjlcaaGreatDoorRows.lean that lists a variable, with what it lists TIED to the program's text (the seventh form; the later family's looks); each row that meets fmt, with fmt's text TOLD by the authors' own Lean function (tested against real Go, not proved from fmt's source: count such statements apart). THE CARD IS WHAT COUNTS. Prove the row's statement (the work); the ties are given (YtihniafidgjlcaaGreatDoorTie.lean); close each card by the builder's one call (the guide's Derived/Test/ToyasCard.lean, 'card_holds'). Laid BY PROGRAM, IN A SANDBOX (cutbox-door.mjs). By AI agents, Wed Nov 11 2026. No macro, syntax, notation, axiom, sorry.
-/
import Derived.Test.YtihniafidgjlcaaGreatDoorRows
import GoSem.ClaimSeven
namespace Go.Proofs.YtihniafidgjlcaaGreatDoor
namespace Rows

/-- THE TIED CARD OF 'phratrylaw16.RosterHomes'. -/
def rosterHomesCard : Claim7 := { stood := { row := rosterHomesRow, standIns := [], harness := (true, "f2b2fb2ac45718319fc27da59da9fa3c8c96850830eaf0ae0492992dafd315ca"), looks := false }, kinds := [], alts := [], laidByText := true, laidKinds := [.data], laidTests := true, laidLooks := .later }
def RosterHomesCardSaid : Prop := Claim7.holds Tryz.pinned (.plain (OpenSpec.ofChange rosterHomesSpec)) rosterHomesCard

/-- THE TIED CARD OF 'phratrylaw16.RosterKeeps'. -/
def rosterKeepsCard : Claim7 := { stood := { row := rosterKeepsRow, standIns := [], harness := (true, "f2b2fb2ac45718319fc27da59da9fa3c8c96850830eaf0ae0492992dafd315ca"), looks := false }, kinds := [], alts := [], laidByText := true, laidKinds := [.data], laidTests := true, laidLooks := .later }
def RosterKeepsCardSaid : Prop := Claim7.holds Tryz.pinned (.plain (OpenSpec.ofChange rosterKeepsSpec)) rosterKeepsCard

/-- THE TIED CARD OF 'phratrylaw16.RosterCards'. -/
def rosterCardsCard : Claim7 := { stood := { row := rosterCardsRow, standIns := [], harness := (true, "f2b2fb2ac45718319fc27da59da9fa3c8c96850830eaf0ae0492992dafd315ca"), looks := false }, kinds := [], alts := [], laidByText := true, laidKinds := [.data, .data, .data], laidTests := true, laidLooks := .later }
def RosterCardsCardSaid : Prop := Claim7.holds Tryz.pinned (.plain (OpenSpec.ofChange rosterCardsSpec)) rosterCardsCard

/-- THE SECOND FORM's CARD OF 'phratrylaw16.RosterHomes'. -/
def rosterHomesUptoCard : Claim7 := { stood := { row := rosterHomesUptoRow, standIns := [], harness := (true, "f2b2fb2ac45718319fc27da59da9fa3c8c96850830eaf0ae0492992dafd315ca"), looks := false }, kinds := [], alts := [], laidByText := true, laidKinds := [.data], laidTests := true, laidLooks := .later }
def RosterHomesUptoCardSaid : Prop := Claim7.holds Tryz.pinned (.plain (OpenSpec.upto rosterHomesSpec)) rosterHomesUptoCard

/-- THE SECOND FORM's CARD OF 'phratrylaw16.RosterKeeps'. -/
def rosterKeepsUptoCard : Claim7 := { stood := { row := rosterKeepsUptoRow, standIns := [], harness := (true, "f2b2fb2ac45718319fc27da59da9fa3c8c96850830eaf0ae0492992dafd315ca"), looks := false }, kinds := [], alts := [], laidByText := true, laidKinds := [.data], laidTests := true, laidLooks := .later }
def RosterKeepsUptoCardSaid : Prop := Claim7.holds Tryz.pinned (.plain (OpenSpec.upto rosterKeepsSpec)) rosterKeepsUptoCard

/-- THE SECOND FORM's CARD OF 'phratrylaw16.RosterCards'. -/
def rosterCardsUptoCard : Claim7 := { stood := { row := rosterCardsUptoRow, standIns := [], harness := (true, "f2b2fb2ac45718319fc27da59da9fa3c8c96850830eaf0ae0492992dafd315ca"), looks := false }, kinds := [], alts := [], laidByText := true, laidKinds := [.data, .data, .data], laidTests := true, laidLooks := .later }
def RosterCardsUptoCardSaid : Prop := Claim7.holds Tryz.pinned (.plain (OpenSpec.upto rosterCardsSpec)) rosterCardsUptoCard
end Rows
end Go.Proofs.YtihniafidgjlcaaGreatDoor
