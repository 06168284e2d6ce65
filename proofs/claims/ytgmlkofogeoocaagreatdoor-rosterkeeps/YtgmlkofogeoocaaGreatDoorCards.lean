/-
  DERIVED. GIVEN WITH THE SEED: THE CARDS: each row of YtgmlkofogeoocaaGreatDoorRows.lean that lists a variable, with what it lists TIED to the program's text (the seventh form; the later family's looks); each row that meets fmt, with fmt's text TOLD by the authors' own Lean function (tested against real Go, not proved from fmt's source: count such statements apart). THE CARD IS WHAT COUNTS. Prove the row's statement (the work); the ties are given (YtgmlkofogeoocaaGreatDoorTie.lean); close each card by the builder's one call (the guide's Derived/Test/ToyasCard.lean, 'card_holds'). Laid BY PROGRAM, IN A SANDBOX (cutbox-door.mjs). By AI agents, Wed Nov 11 2026. No macro, syntax, notation, axiom, sorry.
-/
import Derived.Test.YtgmlkofogeoocaaGreatDoorRows
import GoSem.ClaimSeven
namespace Go.Proofs.YtgmlkofogeoocaaGreatDoor
namespace Rows

/-- THE TIED CARD OF 'phratrylaw16.RosterHomes'. -/
def rosterHomesCard : Claim7 := { stood := { row := rosterHomesRow, standIns := [], harness := (true, "6d101cef2cd4d7bf2706c64b438aca3434295c815436f4e9baea0f85e1553132"), looks := false }, kinds := [], alts := [], laidByText := true, laidKinds := [.data], laidTests := true, laidLooks := .later }
def RosterHomesCardSaid : Prop := Claim7.holds Tryz.pinned (.plain (OpenSpec.ofChange rosterHomesSpec)) rosterHomesCard

/-- THE TIED CARD OF 'phratrylaw16.RosterKeeps'. -/
def rosterKeepsCard : Claim7 := { stood := { row := rosterKeepsRow, standIns := [], harness := (true, "6d101cef2cd4d7bf2706c64b438aca3434295c815436f4e9baea0f85e1553132"), looks := false }, kinds := [], alts := [], laidByText := true, laidKinds := [.data], laidTests := true, laidLooks := .later }
def RosterKeepsCardSaid : Prop := Claim7.holds Tryz.pinned (.plain (OpenSpec.ofChange rosterKeepsSpec)) rosterKeepsCard

/-- THE SECOND FORM's CARD OF 'phratrylaw16.RosterHomes'. -/
def rosterHomesUptoCard : Claim7 := { stood := { row := rosterHomesUptoRow, standIns := [], harness := (true, "6d101cef2cd4d7bf2706c64b438aca3434295c815436f4e9baea0f85e1553132"), looks := false }, kinds := [], alts := [], laidByText := true, laidKinds := [.data], laidTests := true, laidLooks := .later }
def RosterHomesUptoCardSaid : Prop := Claim7.holds Tryz.pinned (.plain (OpenSpec.upto rosterHomesSpec)) rosterHomesUptoCard

/-- THE SECOND FORM's CARD OF 'phratrylaw16.RosterKeeps'. -/
def rosterKeepsUptoCard : Claim7 := { stood := { row := rosterKeepsUptoRow, standIns := [], harness := (true, "6d101cef2cd4d7bf2706c64b438aca3434295c815436f4e9baea0f85e1553132"), looks := false }, kinds := [], alts := [], laidByText := true, laidKinds := [.data], laidTests := true, laidLooks := .later }
def RosterKeepsUptoCardSaid : Prop := Claim7.holds Tryz.pinned (.plain (OpenSpec.upto rosterKeepsSpec)) rosterKeepsUptoCard
end Rows
end Go.Proofs.YtgmlkofogeoocaaGreatDoor
