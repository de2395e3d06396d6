/-
  No cell of these rows narrows 'for every input' (looked for: loops, veiled, ifaces, maps, wideKeys, modest, calm, conditions, laid).
  DERIVED. THE GIVEN ROWS OF THIS SEAT. 4 by the template 'for every input the law returns true; each argument reads behind the call as it read before'; 0 by the template 'total and deterministic' (their statements: YtbmfahgekcnkaaiTotals.lean).
  GIVEN WITH THE SEED: the statements are not yours to turn. If you find one false, say at which input.
  Laid BY PROGRAM, IN A SANDBOX (cutbox-rows.mjs): the forced cells as the released guide's own fill.sh prints them over the translation b2a8f5e41c08973c… (all of the seat's roots in one cut). By AI agents, Wed Nov 11 2026. No macro, syntax, notation, axiom, sorry.
-/
import Derived.Test.YtbmfahgekcnkaaiChecked
import GoSem.Claim
import GoSem.ClaimJoined
import GoSem.ClaimMapViews
import Derived.JoinedTies
import Derived.KernelRfl
namespace Go.Proofs.Ytbmfahgekcnkaai
/- THE CELL 'sum', in the pinned program and in every row, IS THE sha256 OF THE DUMP (.gsa) THAT YtbmfahgekcnkaaiProg.lean LOADS. Nothing in Lean hashes anything: it is a label: what it is worth is what the hold of that sum in a sandbox is worth. -/
noncomputable def Try.pinned : Pinned := { name := "ytbmfahgekcnkaai", sum := "b2a8f5e41c08973cd6254d6660a5237a97e2007e3c01a07872a8d1bb2538ea7b", checked := Try.checked }
namespace Rows
def none {H : Type} : Left H := { results := [], args := [] }

/-- 'tackroomlaw.LogBehinds': WHATEVER THE INPUT: true; the input reads as it did. -/
def logBehindsSpec : ChangeSpec := { name := "logBehinds", fn := fun _ => fun
  | [d1, d2, d3] => { results := [.lit (.bool true)], args := [d1, d2, d3] }
  | _ => none }
def logBehindsRow : OpenClaim := { program := "ytbmfahgekcnkaai", sum := "b2a8f5e41c08973cd6254d6660a5237a97e2007e3c01a07872a8d1bb2538ea7b", func := "tackroom/tackroomlaw.LogBehinds", spec := "logBehinds", apart := false }
def LogBehindsSaid : Prop := logBehindsRow.holds Try.pinned (OpenSpec.ofChange logBehindsSpec)

/-- ITS FALSE NEIGHBOUR: 'it returns false'. Refute it at one input. -/
def logBehindsWrong : ChangeSpec := { name := "logBehinds", fn := fun _ => fun
  | [d1, d2, d3] => { results := [.lit (.bool false)], args := [d1, d2, d3] }
  | _ => none }
def LogBehindsWrongFalsely : Prop := logBehindsRow.holds Try.pinned (OpenSpec.ofChange logBehindsWrong)

/-- 'tackroomlaw.LogCuts': WHATEVER THE INPUT: true; the input reads as it did. -/
def logCutsSpec : ChangeSpec := { name := "logCuts", fn := fun _ => fun
  | [d1, d2] => { results := [.lit (.bool true)], args := [d1, d2] }
  | _ => none }
def logCutsRow : OpenClaim := { program := "ytbmfahgekcnkaai", sum := "b2a8f5e41c08973cd6254d6660a5237a97e2007e3c01a07872a8d1bb2538ea7b", func := "tackroom/tackroomlaw.LogCuts", spec := "logCuts", apart := false }
def LogCutsSaid : Prop := logCutsRow.holds Try.pinned (OpenSpec.ofChange logCutsSpec)

/-- ITS FALSE NEIGHBOUR: 'it returns false'. Refute it at one input. -/
def logCutsWrong : ChangeSpec := { name := "logCuts", fn := fun _ => fun
  | [d1, d2] => { results := [.lit (.bool false)], args := [d1, d2] }
  | _ => none }
def LogCutsWrongFalsely : Prop := logCutsRow.holds Try.pinned (OpenSpec.ofChange logCutsWrong)

/-- 'tackroomlaw.ReplicaChecks': WHATEVER THE INPUT: true; the input reads as it did. -/
def replicaChecksSpec : ChangeSpec := { name := "replicaChecks", fn := fun _ => fun
  | [d] => { results := [.lit (.bool true)], args := [d] }
  | _ => none }
def replicaChecksRow : OpenClaim := { program := "ytbmfahgekcnkaai", sum := "b2a8f5e41c08973cd6254d6660a5237a97e2007e3c01a07872a8d1bb2538ea7b", func := "tackroom/tackroomlaw.ReplicaChecks", spec := "replicaChecks", unfollowed := true, recurses := true, apart := false }
def ReplicaChecksSaid : Prop := replicaChecksRow.holds Try.pinned (OpenSpec.ofChange replicaChecksSpec)

/-- ITS FALSE NEIGHBOUR: 'it returns false'. Refute it at one input. -/
def replicaChecksWrong : ChangeSpec := { name := "replicaChecks", fn := fun _ => fun
  | [d] => { results := [.lit (.bool false)], args := [d] }
  | _ => none }
def ReplicaChecksWrongFalsely : Prop := replicaChecksRow.holds Try.pinned (OpenSpec.ofChange replicaChecksWrong)

/-- 'tackroomlaw.ReplicaCopies': WHATEVER THE INPUT: true; the input reads as it did. -/
def replicaCopiesSpec : ChangeSpec := { name := "replicaCopies", fn := fun _ => fun
  | [d] => { results := [.lit (.bool true)], args := [d] }
  | _ => none }
def replicaCopiesRow : OpenClaim := { program := "ytbmfahgekcnkaai", sum := "b2a8f5e41c08973cd6254d6660a5237a97e2007e3c01a07872a8d1bb2538ea7b", func := "tackroom/tackroomlaw.ReplicaCopies", spec := "replicaCopies", apart := false }
def ReplicaCopiesSaid : Prop := replicaCopiesRow.holds Try.pinned (OpenSpec.ofChange replicaCopiesSpec)

/-- ITS FALSE NEIGHBOUR: 'it returns false'. Refute it at one input. -/
def replicaCopiesWrong : ChangeSpec := { name := "replicaCopies", fn := fun _ => fun
  | [d] => { results := [.lit (.bool false)], args := [d] }
  | _ => none }
def ReplicaCopiesWrongFalsely : Prop := replicaCopiesRow.holds Try.pinned (OpenSpec.ofChange replicaCopiesWrong)

/- THE SECOND FORM. 'bulk': how many values and letters a reading holds, each counted each time it is reached (what is shared counts as often as it is met; a slice's spare places count too). A statement '..UptoSaid' is the law's where the arguments, and the package variables that the reading takes, are together of bulk at most 1048576: NARROWER than '..Said'. Prove '..Said' where nothing that the law and all that it calls make is longer than what came in: it says more and counts as full. Else prove '..UptoSaid'. A law counts once. -/
mutual
def uptoBulk {H : Type} : DataW H → Nat
  | .lit (.string bytes) => bytes.length + 1
  | .lit _ => 1
  | .nil => 1
  | .ptr d => uptoBulk d + 1
  | .slice elems spare => uptoBulkAll elems + uptoBulkAll spare + 1
  | .agg parts => uptoBulkAll parts + 1
  | .iface _ d => uptoBulk d + 1
  | .map entries => uptoBulkEntries entries + 1
  | .held _ => 1
def uptoBulkAll {H : Type} : List (DataW H) → Nat
  | [] => 0
  | d :: r => uptoBulk d + uptoBulkAll r
def uptoBulkEntries {H : Type} : List (Lit × DataW H) → Nat
  | [] => 0
  | x :: r => uptoBulkEntry x + uptoBulkEntries r
def uptoBulkEntry {H : Type} : Lit × DataW H → Nat
  | (.string bytes, d) => bytes.length + uptoBulk d + 1
  | (_, d) => uptoBulk d + 1
 end
def uptoSmall : (H : Type) → List (DataW H) → Bool := fun _ ds => decide (uptoBulkAll ds ≤ 1048576)
def OpenSpec.upto (s : _root_.Go.ChangeSpec) : _root_.Go.OpenSpec := { _root_.Go.OpenSpec.ofChange s with cond := some uptoSmall }

/-- 'tackroomlaw.LogBehinds', WHERE WHAT IT READS IS OF BULK AT MOST 1048576: true; the input reads as it did. -/
def logBehindsUptoRow : OpenClaim := { program := "ytbmfahgekcnkaai", sum := "b2a8f5e41c08973cd6254d6660a5237a97e2007e3c01a07872a8d1bb2538ea7b", func := "tackroom/tackroomlaw.LogBehinds", spec := "logBehinds", apart := false, narrowed := true }
def LogBehindsUptoSaid : Prop := logBehindsUptoRow.holds Try.pinned (OpenSpec.upto logBehindsSpec)

/-- 'tackroomlaw.LogCuts', WHERE WHAT IT READS IS OF BULK AT MOST 1048576: true; the input reads as it did. -/
def logCutsUptoRow : OpenClaim := { program := "ytbmfahgekcnkaai", sum := "b2a8f5e41c08973cd6254d6660a5237a97e2007e3c01a07872a8d1bb2538ea7b", func := "tackroom/tackroomlaw.LogCuts", spec := "logCuts", apart := false, narrowed := true }
def LogCutsUptoSaid : Prop := logCutsUptoRow.holds Try.pinned (OpenSpec.upto logCutsSpec)

/-- 'tackroomlaw.ReplicaChecks', WHERE WHAT IT READS IS OF BULK AT MOST 1048576: true; the input reads as it did. -/
def replicaChecksUptoRow : OpenClaim := { program := "ytbmfahgekcnkaai", sum := "b2a8f5e41c08973cd6254d6660a5237a97e2007e3c01a07872a8d1bb2538ea7b", func := "tackroom/tackroomlaw.ReplicaChecks", spec := "replicaChecks", unfollowed := true, recurses := true, apart := false, narrowed := true }
def ReplicaChecksUptoSaid : Prop := replicaChecksUptoRow.holds Try.pinned (OpenSpec.upto replicaChecksSpec)

/-- 'tackroomlaw.ReplicaCopies', WHERE WHAT IT READS IS OF BULK AT MOST 1048576: true; the input reads as it did. -/
def replicaCopiesUptoRow : OpenClaim := { program := "ytbmfahgekcnkaai", sum := "b2a8f5e41c08973cd6254d6660a5237a97e2007e3c01a07872a8d1bb2538ea7b", func := "tackroom/tackroomlaw.ReplicaCopies", spec := "replicaCopies", apart := false, narrowed := true }
def ReplicaCopiesUptoSaid : Prop := replicaCopiesUptoRow.holds Try.pinned (OpenSpec.upto replicaCopiesSpec)

end Rows
end Go.Proofs.Ytbmfahgekcnkaai
