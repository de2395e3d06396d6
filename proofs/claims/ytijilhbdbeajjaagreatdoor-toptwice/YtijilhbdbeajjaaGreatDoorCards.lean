/-
  DERIVED. GIVEN WITH THE SEED: THE CARDS: each row of YtijilhbdbeajjaaGreatDoorRows.lean that lists a variable, with what it lists TIED to the program's text (the seventh form; the later family's looks); each row that meets fmt, with fmt's text TOLD by the authors' own Lean function (tested against real Go, not proved from fmt's source: count such statements apart). THE CARD IS WHAT COUNTS. Prove the row's statement (the work); the ties are given (YtijilhbdbeajjaaGreatDoorTie.lean); close each card by the builder's one call (the guide's Derived/Test/ToyasCard.lean, 'card_holds'). Laid BY PROGRAM, IN A SANDBOX (cutbox-door.mjs). By AI agents, Wed Nov 11 2026. No macro, syntax, notation, axiom, sorry.
-/
import Derived.Test.YtijilhbdbeajjaaGreatDoorRows
import GoSem.ClaimSeven
namespace Go.Proofs.YtijilhbdbeajjaaGreatDoor
namespace Rows

/-- THE TIED CARD OF 'tackroomkeep.ClustersGood'. -/
def clustersGoodCard : Claim7 := { stood := { row := clustersGoodRow, standIns := [], harness := (true, "412f977379e703f031f1ea5b109af3ce8200bfb03382c424794dc86a7e68204a"), looks := false }, kinds := [], alts := [], laidByText := true, laidKinds := [.data, .data, .data], laidTests := true, laidLooks := .later }
def ClustersGoodCardSaid : Prop := Claim7.holds Tryz.pinned (.plain (OpenSpec.ofChange clustersGoodSpec)) clustersGoodCard

/-- THE TIED CARD OF 'tackroomtop.TopSame'. -/
def topSameCard : Claim7 := { stood := { row := topSameRow, standIns := [], harness := (true, "412f977379e703f031f1ea5b109af3ce8200bfb03382c424794dc86a7e68204a"), looks := false }, kinds := [], alts := [], laidByText := true, laidKinds := [.data, .data, .data], laidTests := true, laidLooks := .later }
def TopSameCardSaid : Prop := Claim7.holds Tryz.pinned (.plain (OpenSpec.ofChange topSameSpec)) topSameCard

/-- THE TIED CARD OF 'tackroomtop.TopOnce'. -/
def topOnceCard : Claim7 := { stood := { row := topOnceRow, standIns := [], harness := (true, "412f977379e703f031f1ea5b109af3ce8200bfb03382c424794dc86a7e68204a"), looks := false }, kinds := [], alts := [], laidByText := true, laidKinds := [.data, .data, .data], laidTests := true, laidLooks := .later }
def TopOnceCardSaid : Prop := Claim7.holds Tryz.pinned (.plain (OpenSpec.ofChange topOnceSpec)) topOnceCard

/-- THE TIED CARD OF 'tackroomtop.TopFences'. -/
def topFencesCard : Claim7 := { stood := { row := topFencesRow, standIns := [], harness := (true, "412f977379e703f031f1ea5b109af3ce8200bfb03382c424794dc86a7e68204a"), looks := false }, kinds := [], alts := [], laidByText := true, laidKinds := [.data, .data, .data], laidTests := true, laidLooks := .later }
def TopFencesCardSaid : Prop := Claim7.holds Tryz.pinned (.plain (OpenSpec.ofChange topFencesSpec)) topFencesCard

/-- THE TIED CARD OF 'tackroomtop.TopReplies'. -/
def topRepliesCard : Claim7 := { stood := { row := topRepliesRow, standIns := [], harness := (true, "412f977379e703f031f1ea5b109af3ce8200bfb03382c424794dc86a7e68204a"), looks := false }, kinds := [], alts := [], laidByText := true, laidKinds := [.data, .data, .data], laidTests := true, laidLooks := .later }
def TopRepliesCardSaid : Prop := Claim7.holds Tryz.pinned (.plain (OpenSpec.ofChange topRepliesSpec)) topRepliesCard

/-- THE TIED CARD OF 'tackroomtop.TopCatch'. -/
def topCatchCard : Claim7 := { stood := { row := topCatchRow, standIns := [], harness := (true, "412f977379e703f031f1ea5b109af3ce8200bfb03382c424794dc86a7e68204a"), looks := false }, kinds := [], alts := [], laidByText := true, laidKinds := [.data, .data, .data], laidTests := true, laidLooks := .later }
def TopCatchCardSaid : Prop := Claim7.holds Tryz.pinned (.plain (OpenSpec.ofChange topCatchSpec)) topCatchCard

/-- THE TIED CARD OF 'tackroomtop.TopCrash'. -/
def topCrashCard : Claim7 := { stood := { row := topCrashRow, standIns := [], harness := (true, "412f977379e703f031f1ea5b109af3ce8200bfb03382c424794dc86a7e68204a"), looks := false }, kinds := [], alts := [], laidByText := true, laidKinds := [.data, .data, .data], laidTests := true, laidLooks := .later }
def TopCrashCardSaid : Prop := Claim7.holds Tryz.pinned (.plain (OpenSpec.ofChange topCrashSpec)) topCrashCard

/-- THE TIED CARD OF 'tackroomtop.TopStays'. -/
def topStaysCard : Claim7 := { stood := { row := topStaysRow, standIns := [], harness := (true, "412f977379e703f031f1ea5b109af3ce8200bfb03382c424794dc86a7e68204a"), looks := false }, kinds := [], alts := [], laidByText := true, laidKinds := [.data, .data, .data], laidTests := true, laidLooks := .later }
def TopStaysCardSaid : Prop := Claim7.holds Tryz.pinned (.plain (OpenSpec.ofChange topStaysSpec)) topStaysCard

/-- THE TIED CARD OF 'tackroomtop.TopTwice'. -/
def topTwiceCard : Claim7 := { stood := { row := topTwiceRow, standIns := [], harness := (true, "412f977379e703f031f1ea5b109af3ce8200bfb03382c424794dc86a7e68204a"), looks := false }, kinds := [], alts := [], laidByText := true, laidKinds := [.data, .data, .data], laidTests := true, laidLooks := .later }
def TopTwiceCardSaid : Prop := Claim7.holds Tryz.pinned (.plain (OpenSpec.ofChange topTwiceSpec)) topTwiceCard

/-- THE SECOND FORM's CARD OF 'tackroomkeep.ClustersGood'. -/
def clustersGoodUptoCard : Claim7 := { stood := { row := clustersGoodUptoRow, standIns := [], harness := (true, "412f977379e703f031f1ea5b109af3ce8200bfb03382c424794dc86a7e68204a"), looks := false }, kinds := [], alts := [], laidByText := true, laidKinds := [.data, .data, .data], laidTests := true, laidLooks := .later }
def ClustersGoodUptoCardSaid : Prop := Claim7.holds Tryz.pinned (.plain (OpenSpec.upto clustersGoodSpec)) clustersGoodUptoCard

/-- THE SECOND FORM's CARD OF 'tackroomtop.TopSame'. -/
def topSameUptoCard : Claim7 := { stood := { row := topSameUptoRow, standIns := [], harness := (true, "412f977379e703f031f1ea5b109af3ce8200bfb03382c424794dc86a7e68204a"), looks := false }, kinds := [], alts := [], laidByText := true, laidKinds := [.data, .data, .data], laidTests := true, laidLooks := .later }
def TopSameUptoCardSaid : Prop := Claim7.holds Tryz.pinned (.plain (OpenSpec.upto topSameSpec)) topSameUptoCard

/-- THE SECOND FORM's CARD OF 'tackroomtop.TopOnce'. -/
def topOnceUptoCard : Claim7 := { stood := { row := topOnceUptoRow, standIns := [], harness := (true, "412f977379e703f031f1ea5b109af3ce8200bfb03382c424794dc86a7e68204a"), looks := false }, kinds := [], alts := [], laidByText := true, laidKinds := [.data, .data, .data], laidTests := true, laidLooks := .later }
def TopOnceUptoCardSaid : Prop := Claim7.holds Tryz.pinned (.plain (OpenSpec.upto topOnceSpec)) topOnceUptoCard

/-- THE SECOND FORM's CARD OF 'tackroomtop.TopFences'. -/
def topFencesUptoCard : Claim7 := { stood := { row := topFencesUptoRow, standIns := [], harness := (true, "412f977379e703f031f1ea5b109af3ce8200bfb03382c424794dc86a7e68204a"), looks := false }, kinds := [], alts := [], laidByText := true, laidKinds := [.data, .data, .data], laidTests := true, laidLooks := .later }
def TopFencesUptoCardSaid : Prop := Claim7.holds Tryz.pinned (.plain (OpenSpec.upto topFencesSpec)) topFencesUptoCard

/-- THE SECOND FORM's CARD OF 'tackroomtop.TopReplies'. -/
def topRepliesUptoCard : Claim7 := { stood := { row := topRepliesUptoRow, standIns := [], harness := (true, "412f977379e703f031f1ea5b109af3ce8200bfb03382c424794dc86a7e68204a"), looks := false }, kinds := [], alts := [], laidByText := true, laidKinds := [.data, .data, .data], laidTests := true, laidLooks := .later }
def TopRepliesUptoCardSaid : Prop := Claim7.holds Tryz.pinned (.plain (OpenSpec.upto topRepliesSpec)) topRepliesUptoCard

/-- THE SECOND FORM's CARD OF 'tackroomtop.TopCatch'. -/
def topCatchUptoCard : Claim7 := { stood := { row := topCatchUptoRow, standIns := [], harness := (true, "412f977379e703f031f1ea5b109af3ce8200bfb03382c424794dc86a7e68204a"), looks := false }, kinds := [], alts := [], laidByText := true, laidKinds := [.data, .data, .data], laidTests := true, laidLooks := .later }
def TopCatchUptoCardSaid : Prop := Claim7.holds Tryz.pinned (.plain (OpenSpec.upto topCatchSpec)) topCatchUptoCard

/-- THE SECOND FORM's CARD OF 'tackroomtop.TopCrash'. -/
def topCrashUptoCard : Claim7 := { stood := { row := topCrashUptoRow, standIns := [], harness := (true, "412f977379e703f031f1ea5b109af3ce8200bfb03382c424794dc86a7e68204a"), looks := false }, kinds := [], alts := [], laidByText := true, laidKinds := [.data, .data, .data], laidTests := true, laidLooks := .later }
def TopCrashUptoCardSaid : Prop := Claim7.holds Tryz.pinned (.plain (OpenSpec.upto topCrashSpec)) topCrashUptoCard

/-- THE SECOND FORM's CARD OF 'tackroomtop.TopStays'. -/
def topStaysUptoCard : Claim7 := { stood := { row := topStaysUptoRow, standIns := [], harness := (true, "412f977379e703f031f1ea5b109af3ce8200bfb03382c424794dc86a7e68204a"), looks := false }, kinds := [], alts := [], laidByText := true, laidKinds := [.data, .data, .data], laidTests := true, laidLooks := .later }
def TopStaysUptoCardSaid : Prop := Claim7.holds Tryz.pinned (.plain (OpenSpec.upto topStaysSpec)) topStaysUptoCard

/-- THE SECOND FORM's CARD OF 'tackroomtop.TopTwice'. -/
def topTwiceUptoCard : Claim7 := { stood := { row := topTwiceUptoRow, standIns := [], harness := (true, "412f977379e703f031f1ea5b109af3ce8200bfb03382c424794dc86a7e68204a"), looks := false }, kinds := [], alts := [], laidByText := true, laidKinds := [.data, .data, .data], laidTests := true, laidLooks := .later }
def TopTwiceUptoCardSaid : Prop := Claim7.holds Tryz.pinned (.plain (OpenSpec.upto topTwiceSpec)) topTwiceUptoCard
end Rows
end Go.Proofs.YtijilhbdbeajjaaGreatDoor
