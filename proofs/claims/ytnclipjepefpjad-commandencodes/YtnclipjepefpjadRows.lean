/-
  No cell of these rows narrows 'for every input' (looked for: loops, veiled, ifaces, maps, wideKeys, modest, calm, conditions, laid).
  DERIVED. THE GIVEN ROWS OF THIS SEAT. 5 by the template 'for every input the law returns true; each argument reads behind the call as it read before'; 0 by the template 'total and deterministic' (their statements: YtnclipjepefpjadTotals.lean).
  GIVEN WITH THE SEED: the statements are not yours to turn. If you find one false, say at which input.
  Laid BY PROGRAM, IN A SANDBOX (cutbox-rows.mjs): the forced cells as the released guide's own fill.sh prints them over the translation 589ec3ba51bd249e… (all of the seat's roots in one cut). By AI agents, Wed Nov 11 2026. No macro, syntax, notation, axiom, sorry.
-/
import Derived.Test.YtnclipjepefpjadChecked
import GoSem.Claim
import GoSem.ClaimJoined
import GoSem.ClaimMapViews
import Derived.JoinedTies
import Derived.KernelRfl
namespace Go.Proofs.Ytnclipjepefpjad
/- THE CELL 'sum', in the pinned program and in every row, IS THE sha256 OF THE DUMP (.gsa) THAT YtnclipjepefpjadProg.lean LOADS. Nothing in Lean hashes anything: it is a label: what it is worth is what the hold of that sum in a sandbox is worth. -/
noncomputable def Try.pinned : Pinned := { name := "ytnclipjepefpjad", sum := "589ec3ba51bd249e39d6186a42b504ac91b43fff72470b36c8045af3ca7dbd8f", checked := Try.checked }
namespace Rows
def none {H : Type} : Left H := { results := [], args := [] }

/-- 'tackroomlaw.PairSets': WHATEVER THE INPUT: true; the input reads as it did. -/
def pairSetsSpec : ChangeSpec := { name := "pairSets", fn := fun _ => fun
  | [d1, d2, d3] => { results := [.lit (.bool true)], args := [d1, d2, d3] }
  | _ => none }
def pairSetsRow : OpenClaim := { program := "ytnclipjepefpjad", sum := "589ec3ba51bd249e39d6186a42b504ac91b43fff72470b36c8045af3ca7dbd8f", func := "tackroom/tackroomlaw.PairSets", spec := "pairSets", inPlace := ["slices.overlaps[tackroom/api.Pair]"], unfollowed := true, recurses := true, apart := false }
def PairSetsSaid : Prop := pairSetsRow.holds Try.pinned (OpenSpec.ofChange pairSetsSpec)

/-- ITS FALSE NEIGHBOUR: 'it returns false'. Refute it at one input. -/
def pairSetsWrong : ChangeSpec := { name := "pairSets", fn := fun _ => fun
  | [d1, d2, d3] => { results := [.lit (.bool false)], args := [d1, d2, d3] }
  | _ => none }
def PairSetsWrongFalsely : Prop := pairSetsRow.holds Try.pinned (OpenSpec.ofChange pairSetsWrong)

/-- 'tackroomlaw.PairGets': WHATEVER THE INPUT: true; the input reads as it did. -/
def pairGetsSpec : ChangeSpec := { name := "pairGets", fn := fun _ => fun
  | [d1, d2] => { results := [.lit (.bool true)], args := [d1, d2] }
  | _ => none }
def pairGetsRow : OpenClaim := { program := "ytnclipjepefpjad", sum := "589ec3ba51bd249e39d6186a42b504ac91b43fff72470b36c8045af3ca7dbd8f", func := "tackroom/tackroomlaw.PairGets", spec := "pairGets", unfollowed := true, recurses := true, apart := false }
def PairGetsSaid : Prop := pairGetsRow.holds Try.pinned (OpenSpec.ofChange pairGetsSpec)

/-- ITS FALSE NEIGHBOUR: 'it returns false'. Refute it at one input. -/
def pairGetsWrong : ChangeSpec := { name := "pairGets", fn := fun _ => fun
  | [d1, d2] => { results := [.lit (.bool false)], args := [d1, d2] }
  | _ => none }
def PairGetsWrongFalsely : Prop := pairGetsRow.holds Try.pinned (OpenSpec.ofChange pairGetsWrong)

/-- 'tackroomlaw.CommandOps': WHATEVER THE INPUT: true; the input reads as it did. -/
def commandOpsSpec : ChangeSpec := { name := "commandOps", fn := fun _ => fun
  | [d] => { results := [.lit (.bool true)], args := [d] }
  | _ => none }
def commandOpsRow : OpenClaim := { program := "ytnclipjepefpjad", sum := "589ec3ba51bd249e39d6186a42b504ac91b43fff72470b36c8045af3ca7dbd8f", func := "tackroom/tackroomlaw.CommandOps", spec := "commandOps", apart := false }
def CommandOpsSaid : Prop := commandOpsRow.holds Try.pinned (OpenSpec.ofChange commandOpsSpec)

/-- ITS FALSE NEIGHBOUR: 'it returns false'. Refute it at one input. -/
def commandOpsWrong : ChangeSpec := { name := "commandOps", fn := fun _ => fun
  | [d] => { results := [.lit (.bool false)], args := [d] }
  | _ => none }
def CommandOpsWrongFalsely : Prop := commandOpsRow.holds Try.pinned (OpenSpec.ofChange commandOpsWrong)

/-- 'tackroomlaw.CommandChecks': WHATEVER THE INPUT: true; the input reads as it did. -/
def commandChecksSpec : ChangeSpec := { name := "commandChecks", fn := fun _ => fun
  | [d] => { results := [.lit (.bool true)], args := [d] }
  | _ => none }
def commandChecksRow : OpenClaim := { program := "ytnclipjepefpjad", sum := "589ec3ba51bd249e39d6186a42b504ac91b43fff72470b36c8045af3ca7dbd8f", func := "tackroom/tackroomlaw.CommandChecks", spec := "commandChecks", apart := false }
def CommandChecksSaid : Prop := commandChecksRow.holds Try.pinned (OpenSpec.ofChange commandChecksSpec)

/-- ITS FALSE NEIGHBOUR: 'it returns false'. Refute it at one input. -/
def commandChecksWrong : ChangeSpec := { name := "commandChecks", fn := fun _ => fun
  | [d] => { results := [.lit (.bool false)], args := [d] }
  | _ => none }
def CommandChecksWrongFalsely : Prop := commandChecksRow.holds Try.pinned (OpenSpec.ofChange commandChecksWrong)

/-- 'tackroomlaw.CommandEncodes': WHATEVER THE INPUT: true; the input reads as it did. -/
def commandEncodesSpec : ChangeSpec := { name := "commandEncodes", fn := fun _ => fun
  | [d] => { results := [.lit (.bool true)], args := [d] }
  | _ => none }
def commandEncodesRow : OpenClaim := { program := "ytnclipjepefpjad", sum := "589ec3ba51bd249e39d6186a42b504ac91b43fff72470b36c8045af3ca7dbd8f", func := "tackroom/tackroomlaw.CommandEncodes", spec := "commandEncodes", inPlace := ["internal/abi.NoEscape"], apart := false }
def CommandEncodesSaid : Prop := commandEncodesRow.holds Try.pinned (OpenSpec.ofChange commandEncodesSpec)

/-- ITS FALSE NEIGHBOUR: 'it returns false'. Refute it at one input. -/
def commandEncodesWrong : ChangeSpec := { name := "commandEncodes", fn := fun _ => fun
  | [d] => { results := [.lit (.bool false)], args := [d] }
  | _ => none }
def CommandEncodesWrongFalsely : Prop := commandEncodesRow.holds Try.pinned (OpenSpec.ofChange commandEncodesWrong)

/- THE SECOND FORM. 'bulk': how many values and letters a reading holds, each counted each time it is reached (what is shared counts as often as it is met; a slice's spare places count too). A statement '..UptoSaid' is the law's where the arguments, and the package variables that the reading takes, are together of bulk at most 1048576: NARROWER than '..Said'. Prove '..Said' where nothing that the law and all that it calls make is longer than what came in: it says more and counts as full. Else prove '..UptoSaid'. A law counts once. -/
mutual
def uptoBulk {H : Type} : DataW H → Nat
  | .lit (.string bytes) => bytes.length + 1
  | .lit _ => 1
  | .nil => 1
  | .ptr d => uptoBulk d + 1
  | .slice elems spare => uptoBulkAll elems + uptoBulkAll spare + 1
  | .agg parts => uptoBulkAll parts + 1
  | .iface _ d => uptoBulk d + 1
  | .map entries => uptoBulkEntries entries + 1
  | .held _ => 1
def uptoBulkAll {H : Type} : List (DataW H) → Nat
  | [] => 0
  | d :: r => uptoBulk d + uptoBulkAll r
def uptoBulkEntries {H : Type} : List (Lit × DataW H) → Nat
  | [] => 0
  | x :: r => uptoBulkEntry x + uptoBulkEntries r
def uptoBulkEntry {H : Type} : Lit × DataW H → Nat
  | (.string bytes, d) => bytes.length + uptoBulk d + 1
  | (_, d) => uptoBulk d + 1
 end
def uptoSmall : (H : Type) → List (DataW H) → Bool := fun _ ds => decide (uptoBulkAll ds ≤ 1048576)
def OpenSpec.upto (s : _root_.Go.ChangeSpec) : _root_.Go.OpenSpec := { _root_.Go.OpenSpec.ofChange s with cond := some uptoSmall }

/-- 'tackroomlaw.PairSets', WHERE WHAT IT READS IS OF BULK AT MOST 1048576: true; the input reads as it did. -/
def pairSetsUptoRow : OpenClaim := { program := "ytnclipjepefpjad", sum := "589ec3ba51bd249e39d6186a42b504ac91b43fff72470b36c8045af3ca7dbd8f", func := "tackroom/tackroomlaw.PairSets", spec := "pairSets", inPlace := ["slices.overlaps[tackroom/api.Pair]"], unfollowed := true, recurses := true, apart := false, narrowed := true }
def PairSetsUptoSaid : Prop := pairSetsUptoRow.holds Try.pinned (OpenSpec.upto pairSetsSpec)

/-- 'tackroomlaw.PairGets', WHERE WHAT IT READS IS OF BULK AT MOST 1048576: true; the input reads as it did. -/
def pairGetsUptoRow : OpenClaim := { program := "ytnclipjepefpjad", sum := "589ec3ba51bd249e39d6186a42b504ac91b43fff72470b36c8045af3ca7dbd8f", func := "tackroom/tackroomlaw.PairGets", spec := "pairGets", unfollowed := true, recurses := true, apart := false, narrowed := true }
def PairGetsUptoSaid : Prop := pairGetsUptoRow.holds Try.pinned (OpenSpec.upto pairGetsSpec)

/-- 'tackroomlaw.CommandOps', WHERE WHAT IT READS IS OF BULK AT MOST 1048576: true; the input reads as it did. -/
def commandOpsUptoRow : OpenClaim := { program := "ytnclipjepefpjad", sum := "589ec3ba51bd249e39d6186a42b504ac91b43fff72470b36c8045af3ca7dbd8f", func := "tackroom/tackroomlaw.CommandOps", spec := "commandOps", apart := false, narrowed := true }
def CommandOpsUptoSaid : Prop := commandOpsUptoRow.holds Try.pinned (OpenSpec.upto commandOpsSpec)

/-- 'tackroomlaw.CommandChecks', WHERE WHAT IT READS IS OF BULK AT MOST 1048576: true; the input reads as it did. -/
def commandChecksUptoRow : OpenClaim := { program := "ytnclipjepefpjad", sum := "589ec3ba51bd249e39d6186a42b504ac91b43fff72470b36c8045af3ca7dbd8f", func := "tackroom/tackroomlaw.CommandChecks", spec := "commandChecks", apart := false, narrowed := true }
def CommandChecksUptoSaid : Prop := commandChecksUptoRow.holds Try.pinned (OpenSpec.upto commandChecksSpec)

/-- 'tackroomlaw.CommandEncodes', WHERE WHAT IT READS IS OF BULK AT MOST 1048576: true; the input reads as it did. -/
def commandEncodesUptoRow : OpenClaim := { program := "ytnclipjepefpjad", sum := "589ec3ba51bd249e39d6186a42b504ac91b43fff72470b36c8045af3ca7dbd8f", func := "tackroom/tackroomlaw.CommandEncodes", spec := "commandEncodes", inPlace := ["internal/abi.NoEscape"], apart := false, narrowed := true }
def CommandEncodesUptoSaid : Prop := commandEncodesUptoRow.holds Try.pinned (OpenSpec.upto commandEncodesSpec)

end Rows
end Go.Proofs.Ytnclipjepefpjad
