/-
  No cell of these rows narrows 'for every input' (looked for: loops, veiled, ifaces, maps, wideKeys, modest, calm, conditions, laid).
  DERIVED. THE GIVEN ROWS OF THIS SEAT. 6 by the template 'for every input the law returns true; each argument reads behind the call as it read before'; 0 by the template 'total and deterministic' (their statements: YtcjoekjjebcomakTotals.lean).
  GIVEN WITH THE SEED: the statements are not yours to turn. If you find one false, say at which input.
  Laid BY PROGRAM, IN A SANDBOX (cutbox-rows.mjs): the forced cells as the released guide's own fill.sh prints them over the translation 77043f46aea29e56… (all of the seat's roots in one cut). By AI agents, Wed Nov 11 2026. No macro, syntax, notation, axiom, sorry.
-/
import Derived.Test.YtcjoekjjebcomakChecked
import GoSem.Claim
import GoSem.ClaimJoined
import GoSem.ClaimMapViews
import Derived.JoinedTies
import Derived.KernelRfl
namespace Go.Proofs.Ytcjoekjjebcomak
/- THE CELL 'sum', in the pinned program and in every row, IS THE sha256 OF THE DUMP (.gsa) THAT YtcjoekjjebcomakProg.lean LOADS. Nothing in Lean hashes anything: it is a label: what it is worth is what the hold of that sum in a sandbox is worth. -/
noncomputable def Try.pinned : Pinned := { name := "ytcjoekjjebcomak", sum := "77043f46aea29e56c50ba825ffc71fa51e6ae3bea9454b6b455fa2729fdb26f7", checked := Try.checked }
namespace Rows
def none {H : Type} : Left H := { results := [], args := [] }

/-- 'tackroomlaw.CustomerChecks': WHATEVER THE INPUT: true; the input reads as it did. -/
def customerChecksSpec : ChangeSpec := { name := "customerChecks", fn := fun _ => fun
  | [d] => { results := [.lit (.bool true)], args := [d] }
  | _ => none }
def customerChecksRow : OpenClaim := { program := "ytcjoekjjebcomak", sum := "77043f46aea29e56c50ba825ffc71fa51e6ae3bea9454b6b455fa2729fdb26f7", func := "tackroom/tackroomlaw.CustomerChecks", spec := "customerChecks", apart := false }
def CustomerChecksSaid : Prop := customerChecksRow.holds Try.pinned (OpenSpec.ofChange customerChecksSpec)

/-- ITS FALSE NEIGHBOUR: 'it returns false'. Refute it at one input. -/
def customerChecksWrong : ChangeSpec := { name := "customerChecks", fn := fun _ => fun
  | [d] => { results := [.lit (.bool false)], args := [d] }
  | _ => none }
def CustomerChecksWrongFalsely : Prop := customerChecksRow.holds Try.pinned (OpenSpec.ofChange customerChecksWrong)

/-- 'tackroomlaw.CustomerCopies': WHATEVER THE INPUT: true; the input reads as it did. -/
def customerCopiesSpec : ChangeSpec := { name := "customerCopies", fn := fun _ => fun
  | [d] => { results := [.lit (.bool true)], args := [d] }
  | _ => none }
def customerCopiesRow : OpenClaim := { program := "ytcjoekjjebcomak", sum := "77043f46aea29e56c50ba825ffc71fa51e6ae3bea9454b6b455fa2729fdb26f7", func := "tackroom/tackroomlaw.CustomerCopies", spec := "customerCopies", apart := false }
def CustomerCopiesSaid : Prop := customerCopiesRow.holds Try.pinned (OpenSpec.ofChange customerCopiesSpec)

/-- ITS FALSE NEIGHBOUR: 'it returns false'. Refute it at one input. -/
def customerCopiesWrong : ChangeSpec := { name := "customerCopies", fn := fun _ => fun
  | [d] => { results := [.lit (.bool false)], args := [d] }
  | _ => none }
def CustomerCopiesWrongFalsely : Prop := customerCopiesRow.holds Try.pinned (OpenSpec.ofChange customerCopiesWrong)

/-- 'tackroomlaw.CustomerNews': WHATEVER THE INPUT: true; the input reads as it did. -/
def customerNewsSpec : ChangeSpec := { name := "customerNews", fn := fun _ => fun
  | [d] => { results := [.lit (.bool true)], args := [d] }
  | _ => none }
def customerNewsRow : OpenClaim := { program := "ytcjoekjjebcomak", sum := "77043f46aea29e56c50ba825ffc71fa51e6ae3bea9454b6b455fa2729fdb26f7", func := "tackroom/tackroomlaw.CustomerNews", spec := "customerNews", apart := false }
def CustomerNewsSaid : Prop := customerNewsRow.holds Try.pinned (OpenSpec.ofChange customerNewsSpec)

/-- ITS FALSE NEIGHBOUR: 'it returns false'. Refute it at one input. -/
def customerNewsWrong : ChangeSpec := { name := "customerNews", fn := fun _ => fun
  | [d] => { results := [.lit (.bool false)], args := [d] }
  | _ => none }
def CustomerNewsWrongFalsely : Prop := customerNewsRow.holds Try.pinned (OpenSpec.ofChange customerNewsWrong)

/-- 'tackroomlaw.CustomerStarts': WHATEVER THE INPUT: true; the input reads as it did. -/
def customerStartsSpec : ChangeSpec := { name := "customerStarts", fn := fun _ => fun
  | [d1, d2] => { results := [.lit (.bool true)], args := [d1, d2] }
  | _ => none }
def customerStartsRow : OpenClaim := { program := "ytcjoekjjebcomak", sum := "77043f46aea29e56c50ba825ffc71fa51e6ae3bea9454b6b455fa2729fdb26f7", func := "tackroom/tackroomlaw.CustomerStarts", spec := "customerStarts", apart := false }
def CustomerStartsSaid : Prop := customerStartsRow.holds Try.pinned (OpenSpec.ofChange customerStartsSpec)

/-- ITS FALSE NEIGHBOUR: 'it returns false'. Refute it at one input. -/
def customerStartsWrong : ChangeSpec := { name := "customerStarts", fn := fun _ => fun
  | [d1, d2] => { results := [.lit (.bool false)], args := [d1, d2] }
  | _ => none }
def CustomerStartsWrongFalsely : Prop := customerStartsRow.holds Try.pinned (OpenSpec.ofChange customerStartsWrong)

/-- 'tackroomlaw.CustomerHellos': WHATEVER THE INPUT: true; the input reads as it did. -/
def customerHellosSpec : ChangeSpec := { name := "customerHellos", fn := fun _ => fun
  | [d] => { results := [.lit (.bool true)], args := [d] }
  | _ => none }
def customerHellosRow : OpenClaim := { program := "ytcjoekjjebcomak", sum := "77043f46aea29e56c50ba825ffc71fa51e6ae3bea9454b6b455fa2729fdb26f7", func := "tackroom/tackroomlaw.CustomerHellos", spec := "customerHellos", inPlace := ["internal/abi.NoEscape"], apart := false }
def CustomerHellosSaid : Prop := customerHellosRow.holds Try.pinned (OpenSpec.ofChange customerHellosSpec)

/-- ITS FALSE NEIGHBOUR: 'it returns false'. Refute it at one input. -/
def customerHellosWrong : ChangeSpec := { name := "customerHellos", fn := fun _ => fun
  | [d] => { results := [.lit (.bool false)], args := [d] }
  | _ => none }
def CustomerHellosWrongFalsely : Prop := customerHellosRow.holds Try.pinned (OpenSpec.ofChange customerHellosWrong)

/-- 'tackroomlaw.CustomerRequests': WHATEVER THE INPUT: true; the input reads as it did. -/
def customerRequestsSpec : ChangeSpec := { name := "customerRequests", fn := fun _ => fun
  | [d1, d2] => { results := [.lit (.bool true)], args := [d1, d2] }
  | _ => none }
def customerRequestsRow : OpenClaim := { program := "ytcjoekjjebcomak", sum := "77043f46aea29e56c50ba825ffc71fa51e6ae3bea9454b6b455fa2729fdb26f7", func := "tackroom/tackroomlaw.CustomerRequests", spec := "customerRequests", inPlace := ["internal/abi.NoEscape"], apart := false }
def CustomerRequestsSaid : Prop := customerRequestsRow.holds Try.pinned (OpenSpec.ofChange customerRequestsSpec)

/-- ITS FALSE NEIGHBOUR: 'it returns false'. Refute it at one input. -/
def customerRequestsWrong : ChangeSpec := { name := "customerRequests", fn := fun _ => fun
  | [d1, d2] => { results := [.lit (.bool false)], args := [d1, d2] }
  | _ => none }
def CustomerRequestsWrongFalsely : Prop := customerRequestsRow.holds Try.pinned (OpenSpec.ofChange customerRequestsWrong)

/- THE SECOND FORM. 'bulk': how many values and letters a reading holds, each counted each time it is reached (what is shared counts as often as it is met; a slice's spare places count too). A statement '..UptoSaid' is the law's where the arguments, and the package variables that the reading takes, are together of bulk at most 1048576: NARROWER than '..Said'. Prove '..Said' where nothing that the law and all that it calls make is longer than what came in: it says more and counts as full. Else prove '..UptoSaid'. A law counts once. -/
mutual
def uptoBulk {H : Type} : DataW H → Nat
  | .lit (.string bytes) => bytes.length + 1
  | .lit _ => 1
  | .nil => 1
  | .ptr d => uptoBulk d + 1
  | .slice elems spare => uptoBulkAll elems + uptoBulkAll spare + 1
  | .agg parts => uptoBulkAll parts + 1
  | .iface _ d => uptoBulk d + 1
  | .map entries => uptoBulkEntries entries + 1
  | .held _ => 1
def uptoBulkAll {H : Type} : List (DataW H) → Nat
  | [] => 0
  | d :: r => uptoBulk d + uptoBulkAll r
def uptoBulkEntries {H : Type} : List (Lit × DataW H) → Nat
  | [] => 0
  | x :: r => uptoBulkEntry x + uptoBulkEntries r
def uptoBulkEntry {H : Type} : Lit × DataW H → Nat
  | (.string bytes, d) => bytes.length + uptoBulk d + 1
  | (_, d) => uptoBulk d + 1
 end
def uptoSmall : (H : Type) → List (DataW H) → Bool := fun _ ds => decide (uptoBulkAll ds ≤ 1048576)
def OpenSpec.upto (s : _root_.Go.ChangeSpec) : _root_.Go.OpenSpec := { _root_.Go.OpenSpec.ofChange s with cond := some uptoSmall }

/-- 'tackroomlaw.CustomerChecks', WHERE WHAT IT READS IS OF BULK AT MOST 1048576: true; the input reads as it did. -/
def customerChecksUptoRow : OpenClaim := { program := "ytcjoekjjebcomak", sum := "77043f46aea29e56c50ba825ffc71fa51e6ae3bea9454b6b455fa2729fdb26f7", func := "tackroom/tackroomlaw.CustomerChecks", spec := "customerChecks", apart := false, narrowed := true }
def CustomerChecksUptoSaid : Prop := customerChecksUptoRow.holds Try.pinned (OpenSpec.upto customerChecksSpec)

/-- 'tackroomlaw.CustomerCopies', WHERE WHAT IT READS IS OF BULK AT MOST 1048576: true; the input reads as it did. -/
def customerCopiesUptoRow : OpenClaim := { program := "ytcjoekjjebcomak", sum := "77043f46aea29e56c50ba825ffc71fa51e6ae3bea9454b6b455fa2729fdb26f7", func := "tackroom/tackroomlaw.CustomerCopies", spec := "customerCopies", apart := false, narrowed := true }
def CustomerCopiesUptoSaid : Prop := customerCopiesUptoRow.holds Try.pinned (OpenSpec.upto customerCopiesSpec)

/-- 'tackroomlaw.CustomerNews', WHERE WHAT IT READS IS OF BULK AT MOST 1048576: true; the input reads as it did. -/
def customerNewsUptoRow : OpenClaim := { program := "ytcjoekjjebcomak", sum := "77043f46aea29e56c50ba825ffc71fa51e6ae3bea9454b6b455fa2729fdb26f7", func := "tackroom/tackroomlaw.CustomerNews", spec := "customerNews", apart := false, narrowed := true }
def CustomerNewsUptoSaid : Prop := customerNewsUptoRow.holds Try.pinned (OpenSpec.upto customerNewsSpec)

/-- 'tackroomlaw.CustomerStarts', WHERE WHAT IT READS IS OF BULK AT MOST 1048576: true; the input reads as it did. -/
def customerStartsUptoRow : OpenClaim := { program := "ytcjoekjjebcomak", sum := "77043f46aea29e56c50ba825ffc71fa51e6ae3bea9454b6b455fa2729fdb26f7", func := "tackroom/tackroomlaw.CustomerStarts", spec := "customerStarts", apart := false, narrowed := true }
def CustomerStartsUptoSaid : Prop := customerStartsUptoRow.holds Try.pinned (OpenSpec.upto customerStartsSpec)

/-- 'tackroomlaw.CustomerHellos', WHERE WHAT IT READS IS OF BULK AT MOST 1048576: true; the input reads as it did. -/
def customerHellosUptoRow : OpenClaim := { program := "ytcjoekjjebcomak", sum := "77043f46aea29e56c50ba825ffc71fa51e6ae3bea9454b6b455fa2729fdb26f7", func := "tackroom/tackroomlaw.CustomerHellos", spec := "customerHellos", inPlace := ["internal/abi.NoEscape"], apart := false, narrowed := true }
def CustomerHellosUptoSaid : Prop := customerHellosUptoRow.holds Try.pinned (OpenSpec.upto customerHellosSpec)

/-- 'tackroomlaw.CustomerRequests', WHERE WHAT IT READS IS OF BULK AT MOST 1048576: true; the input reads as it did. -/
def customerRequestsUptoRow : OpenClaim := { program := "ytcjoekjjebcomak", sum := "77043f46aea29e56c50ba825ffc71fa51e6ae3bea9454b6b455fa2729fdb26f7", func := "tackroom/tackroomlaw.CustomerRequests", spec := "customerRequests", inPlace := ["internal/abi.NoEscape"], apart := false, narrowed := true }
def CustomerRequestsUptoSaid : Prop := customerRequestsUptoRow.holds Try.pinned (OpenSpec.upto customerRequestsSpec)

end Rows
end Go.Proofs.Ytcjoekjjebcomak
