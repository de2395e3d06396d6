/-
  DERIVED. GIVEN WITH THE SEED: THE CARDS: each row of YtkjahjknmfjmkagGreatDoorRows.lean that lists a variable, with what it lists TIED to the program's text (the seventh form; the later family's looks); each row that meets fmt, with fmt's text TOLD by the authors' own Lean function (tested against real Go, not proved from fmt's source: count such statements apart). THE CARD IS WHAT COUNTS. Prove the row's statement (the work); the ties are given (YtkjahjknmfjmkagGreatDoorTie.lean); close each card by the builder's one call (the guide's Derived/Test/ToyasCard.lean, 'card_holds'). Laid BY PROGRAM, IN A SANDBOX (cutbox-door.mjs). By AI agents, Wed Nov 11 2026. No macro, syntax, notation, axiom, sorry.
-/
import Derived.Test.YtkjahjknmfjmkagGreatDoorRows
import GoSem.ClaimSeven
namespace Go.Proofs.YtkjahjknmfjmkagGreatDoor
namespace Rows

/-- THE TIED CARD OF 'tackroomkeep.MachinesGood'. -/
def machinesGoodCard : Claim7 := { stood := { row := machinesGoodRow, standIns := [], harness := (true, "4f7428af0f4b9d8ea753e802c2c5c3243eabfb48e20e3a9e1cab1c2b592268ed"), looks := false }, kinds := [], alts := [], laidByText := true, laidKinds := [.data, .data, .data], laidTests := true, laidLooks := .later }
def MachinesGoodCardSaid : Prop := Claim7.holds Tryz.pinned (.plain (OpenSpec.ofChange machinesGoodSpec)) machinesGoodCard

/-- THE TIED CARD OF 'tackroomkeep.FencesHold'. -/
def fencesHoldCard : Claim7 := { stood := { row := fencesHoldRow, standIns := [], harness := (true, "4f7428af0f4b9d8ea753e802c2c5c3243eabfb48e20e3a9e1cab1c2b592268ed"), looks := false }, kinds := [], alts := [], laidByText := true, laidKinds := [.data, .data, .data], laidTests := true, laidLooks := .later }
def FencesHoldCardSaid : Prop := Claim7.holds Tryz.pinned (.plain (OpenSpec.ofChange fencesHoldSpec)) fencesHoldCard

/-- THE SECOND FORM's CARD OF 'tackroomkeep.MachinesGood'. -/
def machinesGoodUptoCard : Claim7 := { stood := { row := machinesGoodUptoRow, standIns := [], harness := (true, "4f7428af0f4b9d8ea753e802c2c5c3243eabfb48e20e3a9e1cab1c2b592268ed"), looks := false }, kinds := [], alts := [], laidByText := true, laidKinds := [.data, .data, .data], laidTests := true, laidLooks := .later }
def MachinesGoodUptoCardSaid : Prop := Claim7.holds Tryz.pinned (.plain (OpenSpec.upto machinesGoodSpec)) machinesGoodUptoCard

/-- THE SECOND FORM's CARD OF 'tackroomkeep.FencesHold'. -/
def fencesHoldUptoCard : Claim7 := { stood := { row := fencesHoldUptoRow, standIns := [], harness := (true, "4f7428af0f4b9d8ea753e802c2c5c3243eabfb48e20e3a9e1cab1c2b592268ed"), looks := false }, kinds := [], alts := [], laidByText := true, laidKinds := [.data, .data, .data], laidTests := true, laidLooks := .later }
def FencesHoldUptoCardSaid : Prop := Claim7.holds Tryz.pinned (.plain (OpenSpec.upto fencesHoldSpec)) fencesHoldUptoCard
end Rows
end Go.Proofs.YtkjahjknmfjmkagGreatDoor
