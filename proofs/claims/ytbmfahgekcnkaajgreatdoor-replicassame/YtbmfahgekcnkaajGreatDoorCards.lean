/-
  DERIVED. GIVEN WITH THE SEED: THE CARDS: each row of YtbmfahgekcnkaajGreatDoorRows.lean that lists a variable, with what it lists TIED to the program's text (the seventh form; the later family's looks); each row that meets fmt, with fmt's text TOLD by the authors' own Lean function (tested against real Go, not proved from fmt's source: count such statements apart). THE CARD IS WHAT COUNTS. Prove the row's statement (the work); the ties are given (YtbmfahgekcnkaajGreatDoorTie.lean); close each card by the builder's one call (the guide's Derived/Test/ToyasCard.lean, 'card_holds'). Laid BY PROGRAM, IN A SANDBOX (cutbox-door.mjs). By AI agents, Wed Nov 11 2026. No macro, syntax, notation, axiom, sorry.
-/
import Derived.Test.YtbmfahgekcnkaajGreatDoorRows
import GoSem.ClaimSeven
namespace Go.Proofs.YtbmfahgekcnkaajGreatDoor
namespace Rows

/-- THE TIED CARD OF 'tackroomkeep.ReplicasSame'. -/
def replicasSameCard : Claim7 := { stood := { row := replicasSameRow, standIns := [], harness := (true, "d3d3f8479a10c1d2ec4a98acb410fa725a26bc6b0a5979e9826128e8c834f344"), looks := false }, kinds := [], alts := [], laidByText := true, laidKinds := [.data, .data, .data], laidTests := true, laidLooks := .later }
def ReplicasSameCardSaid : Prop := Claim7.holds Tryz.pinned (.plain (OpenSpec.ofChange replicasSameSpec)) replicasSameCard

/-- THE SECOND FORM's CARD OF 'tackroomkeep.ReplicasSame'. -/
def replicasSameUptoCard : Claim7 := { stood := { row := replicasSameUptoRow, standIns := [], harness := (true, "d3d3f8479a10c1d2ec4a98acb410fa725a26bc6b0a5979e9826128e8c834f344"), looks := false }, kinds := [], alts := [], laidByText := true, laidKinds := [.data, .data, .data], laidTests := true, laidLooks := .later }
def ReplicasSameUptoCardSaid : Prop := Claim7.holds Tryz.pinned (.plain (OpenSpec.upto replicasSameSpec)) replicasSameUptoCard
end Rows
end Go.Proofs.YtbmfahgekcnkaajGreatDoor
