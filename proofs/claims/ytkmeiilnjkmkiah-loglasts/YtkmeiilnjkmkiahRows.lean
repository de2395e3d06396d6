/-
  No cell of these rows narrows 'for every input' (looked for: loops, veiled, ifaces, maps, wideKeys, modest, calm, conditions, laid).
  DERIVED. THE GIVEN ROWS OF THIS SEAT. 5 by the template 'for every input the law returns true; each argument reads behind the call as it read before'; 0 by the template 'total and deterministic' (their statements: YtkmeiilnjkmkiahTotals.lean).
  GIVEN WITH THE SEED: the statements are not yours to turn. If you find one false, say at which input.
  Laid BY PROGRAM, IN A SANDBOX (cutbox-rows.mjs): the forced cells as the released guide's own fill.sh prints them over the translation 5989464606b293ac… (all of the seat's roots in one cut). By AI agents, Wed Nov 11 2026. No macro, syntax, notation, axiom, sorry.
-/
import Derived.Test.YtkmeiilnjkmkiahChecked
import GoSem.Claim
import GoSem.ClaimJoined
import GoSem.ClaimMapViews
import Derived.JoinedTies
import Derived.KernelRfl
namespace Go.Proofs.Ytkmeiilnjkmkiah
/- THE CELL 'sum', in the pinned program and in every row, IS THE sha256 OF THE DUMP (.gsa) THAT YtkmeiilnjkmkiahProg.lean LOADS. Nothing in Lean hashes anything: it is a label: what it is worth is what the hold of that sum in a sandbox is worth. -/
noncomputable def Try.pinned : Pinned := { name := "ytkmeiilnjkmkiah", sum := "5989464606b293acefa2cb382ddf392f5c5a46a238541a5448be0195bdce5ef1", checked := Try.checked }
namespace Rows
def none {H : Type} : Left H := { results := [], args := [] }

/-- 'tackroomlaw.LogChecks': WHATEVER THE INPUT: true; the input reads as it did. -/
def logChecksSpec : ChangeSpec := { name := "logChecks", fn := fun _ => fun
  | [d] => { results := [.lit (.bool true)], args := [d] }
  | _ => none }
def logChecksRow : OpenClaim := { program := "ytkmeiilnjkmkiah", sum := "5989464606b293acefa2cb382ddf392f5c5a46a238541a5448be0195bdce5ef1", func := "tackroom/tackroomlaw.LogChecks", spec := "logChecks", apart := false }
def LogChecksSaid : Prop := logChecksRow.holds Try.pinned (OpenSpec.ofChange logChecksSpec)

/-- ITS FALSE NEIGHBOUR: 'it returns false'. Refute it at one input. -/
def logChecksWrong : ChangeSpec := { name := "logChecks", fn := fun _ => fun
  | [d] => { results := [.lit (.bool false)], args := [d] }
  | _ => none }
def LogChecksWrongFalsely : Prop := logChecksRow.holds Try.pinned (OpenSpec.ofChange logChecksWrong)

/-- 'tackroomlaw.LogCopies': WHATEVER THE INPUT: true; the input reads as it did. -/
def logCopiesSpec : ChangeSpec := { name := "logCopies", fn := fun _ => fun
  | [d] => { results := [.lit (.bool true)], args := [d] }
  | _ => none }
def logCopiesRow : OpenClaim := { program := "ytkmeiilnjkmkiah", sum := "5989464606b293acefa2cb382ddf392f5c5a46a238541a5448be0195bdce5ef1", func := "tackroom/tackroomlaw.LogCopies", spec := "logCopies", apart := false }
def LogCopiesSaid : Prop := logCopiesRow.holds Try.pinned (OpenSpec.ofChange logCopiesSpec)

/-- ITS FALSE NEIGHBOUR: 'it returns false'. Refute it at one input. -/
def logCopiesWrong : ChangeSpec := { name := "logCopies", fn := fun _ => fun
  | [d] => { results := [.lit (.bool false)], args := [d] }
  | _ => none }
def LogCopiesWrongFalsely : Prop := logCopiesRow.holds Try.pinned (OpenSpec.ofChange logCopiesWrong)

/-- 'tackroomlaw.LogLasts': WHATEVER THE INPUT: true; the input reads as it did. -/
def logLastsSpec : ChangeSpec := { name := "logLasts", fn := fun _ => fun
  | [d] => { results := [.lit (.bool true)], args := [d] }
  | _ => none }
def logLastsRow : OpenClaim := { program := "ytkmeiilnjkmkiah", sum := "5989464606b293acefa2cb382ddf392f5c5a46a238541a5448be0195bdce5ef1", func := "tackroom/tackroomlaw.LogLasts", spec := "logLasts", apart := false }
def LogLastsSaid : Prop := logLastsRow.holds Try.pinned (OpenSpec.ofChange logLastsSpec)

/-- ITS FALSE NEIGHBOUR: 'it returns false'. Refute it at one input. -/
def logLastsWrong : ChangeSpec := { name := "logLasts", fn := fun _ => fun
  | [d] => { results := [.lit (.bool false)], args := [d] }
  | _ => none }
def LogLastsWrongFalsely : Prop := logLastsRow.holds Try.pinned (OpenSpec.ofChange logLastsWrong)

/-- 'tackroomlaw.LogAts': WHATEVER THE INPUT: true; the input reads as it did. -/
def logAtsSpec : ChangeSpec := { name := "logAts", fn := fun _ => fun
  | [d1, d2] => { results := [.lit (.bool true)], args := [d1, d2] }
  | _ => none }
def logAtsRow : OpenClaim := { program := "ytkmeiilnjkmkiah", sum := "5989464606b293acefa2cb382ddf392f5c5a46a238541a5448be0195bdce5ef1", func := "tackroom/tackroomlaw.LogAts", spec := "logAts", apart := false }
def LogAtsSaid : Prop := logAtsRow.holds Try.pinned (OpenSpec.ofChange logAtsSpec)

/-- ITS FALSE NEIGHBOUR: 'it returns false'. Refute it at one input. -/
def logAtsWrong : ChangeSpec := { name := "logAts", fn := fun _ => fun
  | [d1, d2] => { results := [.lit (.bool false)], args := [d1, d2] }
  | _ => none }
def LogAtsWrongFalsely : Prop := logAtsRow.holds Try.pinned (OpenSpec.ofChange logAtsWrong)

/-- 'tackroomlaw.LogPuts': WHATEVER THE INPUT: true; the input reads as it did. -/
def logPutsSpec : ChangeSpec := { name := "logPuts", fn := fun _ => fun
  | [d1, d2, d3] => { results := [.lit (.bool true)], args := [d1, d2, d3] }
  | _ => none }
def logPutsRow : OpenClaim := { program := "ytkmeiilnjkmkiah", sum := "5989464606b293acefa2cb382ddf392f5c5a46a238541a5448be0195bdce5ef1", func := "tackroom/tackroomlaw.LogPuts", spec := "logPuts", apart := false }
def LogPutsSaid : Prop := logPutsRow.holds Try.pinned (OpenSpec.ofChange logPutsSpec)

/-- ITS FALSE NEIGHBOUR: 'it returns false'. Refute it at one input. -/
def logPutsWrong : ChangeSpec := { name := "logPuts", fn := fun _ => fun
  | [d1, d2, d3] => { results := [.lit (.bool false)], args := [d1, d2, d3] }
  | _ => none }
def LogPutsWrongFalsely : Prop := logPutsRow.holds Try.pinned (OpenSpec.ofChange logPutsWrong)

/- THE SECOND FORM. 'bulk': how many values and letters a reading holds, each counted each time it is reached (what is shared counts as often as it is met; a slice's spare places count too). A statement '..UptoSaid' is the law's where the arguments, and the package variables that the reading takes, are together of bulk at most 1048576: NARROWER than '..Said'. Prove '..Said' where nothing that the law and all that it calls make is longer than what came in: it says more and counts as full. Else prove '..UptoSaid'. A law counts once. -/
mutual
def uptoBulk {H : Type} : DataW H → Nat
  | .lit (.string bytes) => bytes.length + 1
  | .lit _ => 1
  | .nil => 1
  | .ptr d => uptoBulk d + 1
  | .slice elems spare => uptoBulkAll elems + uptoBulkAll spare + 1
  | .agg parts => uptoBulkAll parts + 1
  | .iface _ d => uptoBulk d + 1
  | .map entries => uptoBulkEntries entries + 1
  | .held _ => 1
def uptoBulkAll {H : Type} : List (DataW H) → Nat
  | [] => 0
  | d :: r => uptoBulk d + uptoBulkAll r
def uptoBulkEntries {H : Type} : List (Lit × DataW H) → Nat
  | [] => 0
  | x :: r => uptoBulkEntry x + uptoBulkEntries r
def uptoBulkEntry {H : Type} : Lit × DataW H → Nat
  | (.string bytes, d) => bytes.length + uptoBulk d + 1
  | (_, d) => uptoBulk d + 1
 end
def uptoSmall : (H : Type) → List (DataW H) → Bool := fun _ ds => decide (uptoBulkAll ds ≤ 1048576)
def OpenSpec.upto (s : _root_.Go.ChangeSpec) : _root_.Go.OpenSpec := { _root_.Go.OpenSpec.ofChange s with cond := some uptoSmall }

/-- 'tackroomlaw.LogChecks', WHERE WHAT IT READS IS OF BULK AT MOST 1048576: true; the input reads as it did. -/
def logChecksUptoRow : OpenClaim := { program := "ytkmeiilnjkmkiah", sum := "5989464606b293acefa2cb382ddf392f5c5a46a238541a5448be0195bdce5ef1", func := "tackroom/tackroomlaw.LogChecks", spec := "logChecks", apart := false, narrowed := true }
def LogChecksUptoSaid : Prop := logChecksUptoRow.holds Try.pinned (OpenSpec.upto logChecksSpec)

/-- 'tackroomlaw.LogCopies', WHERE WHAT IT READS IS OF BULK AT MOST 1048576: true; the input reads as it did. -/
def logCopiesUptoRow : OpenClaim := { program := "ytkmeiilnjkmkiah", sum := "5989464606b293acefa2cb382ddf392f5c5a46a238541a5448be0195bdce5ef1", func := "tackroom/tackroomlaw.LogCopies", spec := "logCopies", apart := false, narrowed := true }
def LogCopiesUptoSaid : Prop := logCopiesUptoRow.holds Try.pinned (OpenSpec.upto logCopiesSpec)

/-- 'tackroomlaw.LogLasts', WHERE WHAT IT READS IS OF BULK AT MOST 1048576: true; the input reads as it did. -/
def logLastsUptoRow : OpenClaim := { program := "ytkmeiilnjkmkiah", sum := "5989464606b293acefa2cb382ddf392f5c5a46a238541a5448be0195bdce5ef1", func := "tackroom/tackroomlaw.LogLasts", spec := "logLasts", apart := false, narrowed := true }
def LogLastsUptoSaid : Prop := logLastsUptoRow.holds Try.pinned (OpenSpec.upto logLastsSpec)

/-- 'tackroomlaw.LogAts', WHERE WHAT IT READS IS OF BULK AT MOST 1048576: true; the input reads as it did. -/
def logAtsUptoRow : OpenClaim := { program := "ytkmeiilnjkmkiah", sum := "5989464606b293acefa2cb382ddf392f5c5a46a238541a5448be0195bdce5ef1", func := "tackroom/tackroomlaw.LogAts", spec := "logAts", apart := false, narrowed := true }
def LogAtsUptoSaid : Prop := logAtsUptoRow.holds Try.pinned (OpenSpec.upto logAtsSpec)

/-- 'tackroomlaw.LogPuts', WHERE WHAT IT READS IS OF BULK AT MOST 1048576: true; the input reads as it did. -/
def logPutsUptoRow : OpenClaim := { program := "ytkmeiilnjkmkiah", sum := "5989464606b293acefa2cb382ddf392f5c5a46a238541a5448be0195bdce5ef1", func := "tackroom/tackroomlaw.LogPuts", spec := "logPuts", apart := false, narrowed := true }
def LogPutsUptoSaid : Prop := logPutsUptoRow.holds Try.pinned (OpenSpec.upto logPutsSpec)

end Rows
end Go.Proofs.Ytkmeiilnjkmkiah
