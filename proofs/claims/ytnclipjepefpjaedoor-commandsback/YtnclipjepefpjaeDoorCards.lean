/-
  DERIVED. GIVEN WITH THE SEED: THE CARDS: each row of YtnclipjepefpjaeDoorRows.lean that lists a variable, with what it lists TIED to the program's text (the seventh form; the later family's looks); each row that meets fmt, with fmt's text TOLD by the authors' own Lean function (tested against real Go, not proved from fmt's source: count such statements apart). THE CARD IS WHAT COUNTS. Prove the row's statement (the work); the ties are given (YtnclipjepefpjaeDoorTie.lean); close each card by the builder's one call (the guide's Derived/Test/ToyasCard.lean, 'card_holds'). Laid BY PROGRAM, IN A SANDBOX (cutbox-door.mjs). By AI agents, Wed Nov 11 2026. No macro, syntax, notation, axiom, sorry.
-/
import Derived.Test.YtnclipjepefpjaeDoorRows
import GoSem.ClaimSeven
namespace Go.Proofs.YtnclipjepefpjaeDoor
namespace Rows

/-- THE TIED CARD OF 'tackroomkeep.CommandsBack'. -/
def commandsBackCard : Claim7 := { stood := { row := commandsBackRow, standIns := [], harness := (true, "367fe9815bbbbe97ae1914a2693582d8d62901ec0566af234f48e8228607eab4"), looks := false }, kinds := [], alts := [], laidByText := true, laidKinds := [.data, .data, .data], laidTests := true, laidLooks := .later }
def CommandsBackCardSaid : Prop := Claim7.holds Tryd.pinned (.plain (OpenSpec.ofChange commandsBackSpec)) commandsBackCard

/-- THE SECOND FORM's CARD OF 'tackroomkeep.CommandsBack'. -/
def commandsBackUptoCard : Claim7 := { stood := { row := commandsBackUptoRow, standIns := [], harness := (true, "367fe9815bbbbe97ae1914a2693582d8d62901ec0566af234f48e8228607eab4"), looks := false }, kinds := [], alts := [], laidByText := true, laidKinds := [.data, .data, .data], laidTests := true, laidLooks := .later }
def CommandsBackUptoCardSaid : Prop := Claim7.holds Tryd.pinned (.plain (OpenSpec.upto commandsBackSpec)) commandsBackUptoCard
end Rows
end Go.Proofs.YtnclipjepefpjaeDoor
