/-
  DERIVED. GIVEN WITH THE SEED: THE CARDS: each row of YtcjoekjjebcomalDoorRows.lean that lists a variable, with what it lists TIED to the program's text (the seventh form; the later family's looks); each row that meets fmt, with fmt's text TOLD by the authors' own Lean function (tested against real Go, not proved from fmt's source: count such statements apart). THE CARD IS WHAT COUNTS. Prove the row's statement (the work); the ties are given (YtcjoekjjebcomalDoorTie.lean); close each card by the builder's one call (the guide's Derived/Test/ToyasCard.lean, 'card_holds'). Laid BY PROGRAM, IN A SANDBOX (cutbox-door.mjs). By AI agents, Wed Nov 11 2026. No macro, syntax, notation, axiom, sorry.
-/
import Derived.Test.YtcjoekjjebcomalDoorRows
import GoSem.ClaimSeven
namespace Go.Proofs.YtcjoekjjebcomalDoor
namespace Rows

/-- THE TIED CARD OF 'tackroomkeep.CustomersAsk'. -/
def customersAskCard : Claim7 := { stood := { row := customersAskRow, standIns := [], harness := (true, "cc0281579e0e973cca2319ef19fcbc70241d16c752a3cf51568cfac0b2502a13"), looks := false }, kinds := [], alts := [], laidByText := true, laidKinds := [.data, .data, .data], laidTests := true, laidLooks := .later }
def CustomersAskCardSaid : Prop := Claim7.holds Tryd.pinned (.plain (OpenSpec.ofChange customersAskSpec)) customersAskCard

/-- THE SECOND FORM's CARD OF 'tackroomkeep.CustomersAsk'. -/
def customersAskUptoCard : Claim7 := { stood := { row := customersAskUptoRow, standIns := [], harness := (true, "cc0281579e0e973cca2319ef19fcbc70241d16c752a3cf51568cfac0b2502a13"), looks := false }, kinds := [], alts := [], laidByText := true, laidKinds := [.data, .data, .data], laidTests := true, laidLooks := .later }
def CustomersAskUptoCardSaid : Prop := Claim7.holds Tryd.pinned (.plain (OpenSpec.upto customersAskSpec)) customersAskUptoCard
end Rows
end Go.Proofs.YtcjoekjjebcomalDoor
