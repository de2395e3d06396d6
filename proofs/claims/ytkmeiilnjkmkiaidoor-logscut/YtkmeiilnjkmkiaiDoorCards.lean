/-
  DERIVED. GIVEN WITH THE SEED: THE CARDS: each row of YtkmeiilnjkmkiaiDoorRows.lean that lists a variable, with what it lists TIED to the program's text (the seventh form; the later family's looks); each row that meets fmt, with fmt's text TOLD by the authors' own Lean function (tested against real Go, not proved from fmt's source: count such statements apart). THE CARD IS WHAT COUNTS. Prove the row's statement (the work); the ties are given (YtkmeiilnjkmkiaiDoorTie.lean); close each card by the builder's one call (the guide's Derived/Test/ToyasCard.lean, 'card_holds'). Laid BY PROGRAM, IN A SANDBOX (cutbox-door.mjs). By AI agents, Wed Nov 11 2026. No macro, syntax, notation, axiom, sorry.
-/
import Derived.Test.YtkmeiilnjkmkiaiDoorRows
import GoSem.ClaimSeven
namespace Go.Proofs.YtkmeiilnjkmkiaiDoor
namespace Rows

/-- THE TIED CARD OF 'tackroomkeep.LogsPut'. -/
def logsPutCard : Claim7 := { stood := { row := logsPutRow, standIns := [], harness := (true, "971cf82f14b930a74dbac5879edac040de5e73a16719a2e2888d3634cc7d6b96"), looks := false }, kinds := [], alts := [], laidByText := true, laidKinds := [.data, .data, .data], laidTests := true, laidLooks := .later }
def LogsPutCardSaid : Prop := Claim7.holds Tryd.pinned (.plain (OpenSpec.ofChange logsPutSpec)) logsPutCard

/-- THE TIED CARD OF 'tackroomkeep.LogsCut'. -/
def logsCutCard : Claim7 := { stood := { row := logsCutRow, standIns := [], harness := (true, "971cf82f14b930a74dbac5879edac040de5e73a16719a2e2888d3634cc7d6b96"), looks := false }, kinds := [], alts := [], laidByText := true, laidKinds := [.data, .data, .data], laidTests := true, laidLooks := .later }
def LogsCutCardSaid : Prop := Claim7.holds Tryd.pinned (.plain (OpenSpec.ofChange logsCutSpec)) logsCutCard

/-- THE SECOND FORM's CARD OF 'tackroomkeep.LogsPut'. -/
def logsPutUptoCard : Claim7 := { stood := { row := logsPutUptoRow, standIns := [], harness := (true, "971cf82f14b930a74dbac5879edac040de5e73a16719a2e2888d3634cc7d6b96"), looks := false }, kinds := [], alts := [], laidByText := true, laidKinds := [.data, .data, .data], laidTests := true, laidLooks := .later }
def LogsPutUptoCardSaid : Prop := Claim7.holds Tryd.pinned (.plain (OpenSpec.upto logsPutSpec)) logsPutUptoCard

/-- THE SECOND FORM's CARD OF 'tackroomkeep.LogsCut'. -/
def logsCutUptoCard : Claim7 := { stood := { row := logsCutUptoRow, standIns := [], harness := (true, "971cf82f14b930a74dbac5879edac040de5e73a16719a2e2888d3634cc7d6b96"), looks := false }, kinds := [], alts := [], laidByText := true, laidKinds := [.data, .data, .data], laidTests := true, laidLooks := .later }
def LogsCutUptoCardSaid : Prop := Claim7.holds Tryd.pinned (.plain (OpenSpec.upto logsCutSpec)) logsCutUptoCard
end Rows
end Go.Proofs.YtkmeiilnjkmkiaiDoor
