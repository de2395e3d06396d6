/-
  No cell of these rows narrows 'for every input' (looked for: loops, veiled, ifaces, maps, wideKeys, modest, calm, conditions, laid).
  DERIVED. THE GIVEN ROWS OF THIS SEAT. 6 by the template 'for every input the law returns true; each argument reads behind the call as it read before'; 0 by the template 'total and deterministic' (their statements: YtkmkocbpclkhhabTotals.lean).
  GIVEN WITH THE SEED: the statements are not yours to turn. If you find one false, say at which input.
  Laid BY PROGRAM, IN A SANDBOX (cutbox-rows.mjs): the forced cells as the released guide's own fill.sh prints them over the translation 5b2608753a6b97bc… (all of the seat's roots in one cut). By AI agents, Wed Nov 11 2026. No macro, syntax, notation, axiom, sorry.
-/
import Derived.Test.YtkmkocbpclkhhabChecked
import GoSem.Claim
import GoSem.ClaimJoined
import GoSem.ClaimMapViews
import Derived.JoinedTies
import Derived.KernelRfl
namespace Go.Proofs.Ytkmkocbpclkhhab
/- THE CELL 'sum', in the pinned program and in every row, IS THE sha256 OF THE DUMP (.gsa) THAT YtkmkocbpclkhhabProg.lean LOADS. Nothing in Lean hashes anything: it is a label: what it is worth is what the hold of that sum in a sandbox is worth. -/
noncomputable def Try.pinned : Pinned := { name := "ytkmkocbpclkhhab", sum := "5b2608753a6b97bce8383caafe823a4ec2c6c7cbc30310e3e4ab9099bd604b5e", checked := Try.checked }
namespace Rows
def none {H : Type} : Left H := { results := [], args := [] }

/-- 'tackroomkeep.NumbersOnce': WHATEVER THE INPUT: true; the input reads as it did. -/
def numbersOnceSpec : ChangeSpec := { name := "numbersOnce", fn := fun _ => fun
  | [d] => { results := [.lit (.bool true)], args := [d] }
  | _ => none }
def numbersOnceRow : OpenClaim := { program := "ytkmkocbpclkhhab", sum := "5b2608753a6b97bce8383caafe823a4ec2c6c7cbc30310e3e4ab9099bd604b5e", func := "tackroom/tackroomkeep.NumbersOnce", spec := "numbersOnce", apart := false }
def NumbersOnceSaid : Prop := numbersOnceRow.holds Try.pinned (OpenSpec.ofChange numbersOnceSpec)

/-- ITS FALSE NEIGHBOUR: 'it returns false'. Refute it at one input. -/
def numbersOnceWrong : ChangeSpec := { name := "numbersOnce", fn := fun _ => fun
  | [d] => { results := [.lit (.bool false)], args := [d] }
  | _ => none }
def NumbersOnceWrongFalsely : Prop := numbersOnceRow.holds Try.pinned (OpenSpec.ofChange numbersOnceWrong)

/-- 'tackroomlaw.LockNames': WHATEVER THE INPUT: true; the input reads as it did. -/
def lockNamesSpec : ChangeSpec := { name := "lockNames", fn := fun _ => fun
  | [d] => { results := [.lit (.bool true)], args := [d] }
  | _ => none }
def lockNamesRow : OpenClaim := { program := "ytkmkocbpclkhhab", sum := "5b2608753a6b97bce8383caafe823a4ec2c6c7cbc30310e3e4ab9099bd604b5e", func := "tackroom/tackroomlaw.LockNames", spec := "lockNames", apart := false }
def LockNamesSaid : Prop := lockNamesRow.holds Try.pinned (OpenSpec.ofChange lockNamesSpec)

/-- ITS FALSE NEIGHBOUR: 'it returns false'. Refute it at one input. -/
def lockNamesWrong : ChangeSpec := { name := "lockNames", fn := fun _ => fun
  | [d] => { results := [.lit (.bool false)], args := [d] }
  | _ => none }
def LockNamesWrongFalsely : Prop := lockNamesRow.holds Try.pinned (OpenSpec.ofChange lockNamesWrong)

/-- 'tackroomlaw.LockChecks': WHATEVER THE INPUT: true; the input reads as it did. -/
def lockChecksSpec : ChangeSpec := { name := "lockChecks", fn := fun _ => fun
  | [d] => { results := [.lit (.bool true)], args := [d] }
  | _ => none }
def lockChecksRow : OpenClaim := { program := "ytkmkocbpclkhhab", sum := "5b2608753a6b97bce8383caafe823a4ec2c6c7cbc30310e3e4ab9099bd604b5e", func := "tackroom/tackroomlaw.LockChecks", spec := "lockChecks", apart := false }
def LockChecksSaid : Prop := lockChecksRow.holds Try.pinned (OpenSpec.ofChange lockChecksSpec)

/-- ITS FALSE NEIGHBOUR: 'it returns false'. Refute it at one input. -/
def lockChecksWrong : ChangeSpec := { name := "lockChecks", fn := fun _ => fun
  | [d] => { results := [.lit (.bool false)], args := [d] }
  | _ => none }
def LockChecksWrongFalsely : Prop := lockChecksRow.holds Try.pinned (OpenSpec.ofChange lockChecksWrong)

/-- 'tackroomlaw.LockCopies': WHATEVER THE INPUT: true; the input reads as it did. -/
def lockCopiesSpec : ChangeSpec := { name := "lockCopies", fn := fun _ => fun
  | [d] => { results := [.lit (.bool true)], args := [d] }
  | _ => none }
def lockCopiesRow : OpenClaim := { program := "ytkmkocbpclkhhab", sum := "5b2608753a6b97bce8383caafe823a4ec2c6c7cbc30310e3e4ab9099bd604b5e", func := "tackroom/tackroomlaw.LockCopies", spec := "lockCopies", apart := false }
def LockCopiesSaid : Prop := lockCopiesRow.holds Try.pinned (OpenSpec.ofChange lockCopiesSpec)

/-- ITS FALSE NEIGHBOUR: 'it returns false'. Refute it at one input. -/
def lockCopiesWrong : ChangeSpec := { name := "lockCopies", fn := fun _ => fun
  | [d] => { results := [.lit (.bool false)], args := [d] }
  | _ => none }
def LockCopiesWrongFalsely : Prop := lockCopiesRow.holds Try.pinned (OpenSpec.ofChange lockCopiesWrong)

/-- 'tackroomlaw.LockTakes': WHATEVER THE INPUT: true; the input reads as it did. -/
def lockTakesSpec : ChangeSpec := { name := "lockTakes", fn := fun _ => fun
  | [d1, d2, d3, d4] => { results := [.lit (.bool true)], args := [d1, d2, d3, d4] }
  | _ => none }
def lockTakesRow : OpenClaim := { program := "ytkmkocbpclkhhab", sum := "5b2608753a6b97bce8383caafe823a4ec2c6c7cbc30310e3e4ab9099bd604b5e", func := "tackroom/tackroomlaw.LockTakes", spec := "lockTakes", inPlace := ["slices.overlaps[tackroom/api.Lock]"], unfollowed := true, recurses := true, apart := false }
def LockTakesSaid : Prop := lockTakesRow.holds Try.pinned (OpenSpec.ofChange lockTakesSpec)

/-- ITS FALSE NEIGHBOUR: 'it returns false'. Refute it at one input. -/
def lockTakesWrong : ChangeSpec := { name := "lockTakes", fn := fun _ => fun
  | [d1, d2, d3, d4] => { results := [.lit (.bool false)], args := [d1, d2, d3, d4] }
  | _ => none }
def LockTakesWrongFalsely : Prop := lockTakesRow.holds Try.pinned (OpenSpec.ofChange lockTakesWrong)

/-- 'tackroomlaw.LockFrees': WHATEVER THE INPUT: true; the input reads as it did. -/
def lockFreesSpec : ChangeSpec := { name := "lockFrees", fn := fun _ => fun
  | [d1, d2, d3] => { results := [.lit (.bool true)], args := [d1, d2, d3] }
  | _ => none }
def lockFreesRow : OpenClaim := { program := "ytkmkocbpclkhhab", sum := "5b2608753a6b97bce8383caafe823a4ec2c6c7cbc30310e3e4ab9099bd604b5e", func := "tackroom/tackroomlaw.LockFrees", spec := "lockFrees", unfollowed := true, recurses := true, apart := false }
def LockFreesSaid : Prop := lockFreesRow.holds Try.pinned (OpenSpec.ofChange lockFreesSpec)

/-- ITS FALSE NEIGHBOUR: 'it returns false'. Refute it at one input. -/
def lockFreesWrong : ChangeSpec := { name := "lockFrees", fn := fun _ => fun
  | [d1, d2, d3] => { results := [.lit (.bool false)], args := [d1, d2, d3] }
  | _ => none }
def LockFreesWrongFalsely : Prop := lockFreesRow.holds Try.pinned (OpenSpec.ofChange lockFreesWrong)

/- THE SECOND FORM. 'bulk': how many values and letters a reading holds, each counted each time it is reached (what is shared counts as often as it is met; a slice's spare places count too). A statement '..UptoSaid' is the law's where the arguments, and the package variables that the reading takes, are together of bulk at most 1048576: NARROWER than '..Said'. Prove '..Said' where nothing that the law and all that it calls make is longer than what came in: it says more and counts as full. Else prove '..UptoSaid'. A law counts once. -/
mutual
def uptoBulk {H : Type} : DataW H → Nat
  | .lit (.string bytes) => bytes.length + 1
  | .lit _ => 1
  | .nil => 1
  | .ptr d => uptoBulk d + 1
  | .slice elems spare => uptoBulkAll elems + uptoBulkAll spare + 1
  | .agg parts => uptoBulkAll parts + 1
  | .iface _ d => uptoBulk d + 1
  | .map entries => uptoBulkEntries entries + 1
  | .held _ => 1
def uptoBulkAll {H : Type} : List (DataW H) → Nat
  | [] => 0
  | d :: r => uptoBulk d + uptoBulkAll r
def uptoBulkEntries {H : Type} : List (Lit × DataW H) → Nat
  | [] => 0
  | x :: r => uptoBulkEntry x + uptoBulkEntries r
def uptoBulkEntry {H : Type} : Lit × DataW H → Nat
  | (.string bytes, d) => bytes.length + uptoBulk d + 1
  | (_, d) => uptoBulk d + 1
 end
def uptoSmall : (H : Type) → List (DataW H) → Bool := fun _ ds => decide (uptoBulkAll ds ≤ 1048576)
def OpenSpec.upto (s : _root_.Go.ChangeSpec) : _root_.Go.OpenSpec := { _root_.Go.OpenSpec.ofChange s with cond := some uptoSmall }

/-- 'tackroomkeep.NumbersOnce', WHERE WHAT IT READS IS OF BULK AT MOST 1048576: true; the input reads as it did. -/
def numbersOnceUptoRow : OpenClaim := { program := "ytkmkocbpclkhhab", sum := "5b2608753a6b97bce8383caafe823a4ec2c6c7cbc30310e3e4ab9099bd604b5e", func := "tackroom/tackroomkeep.NumbersOnce", spec := "numbersOnce", apart := false, narrowed := true }
def NumbersOnceUptoSaid : Prop := numbersOnceUptoRow.holds Try.pinned (OpenSpec.upto numbersOnceSpec)

/-- 'tackroomlaw.LockNames', WHERE WHAT IT READS IS OF BULK AT MOST 1048576: true; the input reads as it did. -/
def lockNamesUptoRow : OpenClaim := { program := "ytkmkocbpclkhhab", sum := "5b2608753a6b97bce8383caafe823a4ec2c6c7cbc30310e3e4ab9099bd604b5e", func := "tackroom/tackroomlaw.LockNames", spec := "lockNames", apart := false, narrowed := true }
def LockNamesUptoSaid : Prop := lockNamesUptoRow.holds Try.pinned (OpenSpec.upto lockNamesSpec)

/-- 'tackroomlaw.LockChecks', WHERE WHAT IT READS IS OF BULK AT MOST 1048576: true; the input reads as it did. -/
def lockChecksUptoRow : OpenClaim := { program := "ytkmkocbpclkhhab", sum := "5b2608753a6b97bce8383caafe823a4ec2c6c7cbc30310e3e4ab9099bd604b5e", func := "tackroom/tackroomlaw.LockChecks", spec := "lockChecks", apart := false, narrowed := true }
def LockChecksUptoSaid : Prop := lockChecksUptoRow.holds Try.pinned (OpenSpec.upto lockChecksSpec)

/-- 'tackroomlaw.LockCopies', WHERE WHAT IT READS IS OF BULK AT MOST 1048576: true; the input reads as it did. -/
def lockCopiesUptoRow : OpenClaim := { program := "ytkmkocbpclkhhab", sum := "5b2608753a6b97bce8383caafe823a4ec2c6c7cbc30310e3e4ab9099bd604b5e", func := "tackroom/tackroomlaw.LockCopies", spec := "lockCopies", apart := false, narrowed := true }
def LockCopiesUptoSaid : Prop := lockCopiesUptoRow.holds Try.pinned (OpenSpec.upto lockCopiesSpec)

/-- 'tackroomlaw.LockTakes', WHERE WHAT IT READS IS OF BULK AT MOST 1048576: true; the input reads as it did. -/
def lockTakesUptoRow : OpenClaim := { program := "ytkmkocbpclkhhab", sum := "5b2608753a6b97bce8383caafe823a4ec2c6c7cbc30310e3e4ab9099bd604b5e", func := "tackroom/tackroomlaw.LockTakes", spec := "lockTakes", inPlace := ["slices.overlaps[tackroom/api.Lock]"], unfollowed := true, recurses := true, apart := false, narrowed := true }
def LockTakesUptoSaid : Prop := lockTakesUptoRow.holds Try.pinned (OpenSpec.upto lockTakesSpec)

/-- 'tackroomlaw.LockFrees', WHERE WHAT IT READS IS OF BULK AT MOST 1048576: true; the input reads as it did. -/
def lockFreesUptoRow : OpenClaim := { program := "ytkmkocbpclkhhab", sum := "5b2608753a6b97bce8383caafe823a4ec2c6c7cbc30310e3e4ab9099bd604b5e", func := "tackroom/tackroomlaw.LockFrees", spec := "lockFrees", unfollowed := true, recurses := true, apart := false, narrowed := true }
def LockFreesUptoSaid : Prop := lockFreesUptoRow.holds Try.pinned (OpenSpec.upto lockFreesSpec)

end Rows
end Go.Proofs.Ytkmkocbpclkhhab
