/-
  No cell of these rows narrows 'for every input' (looked for: loops, veiled, ifaces, maps, wideKeys, modest, calm, conditions, laid).
  DERIVED. THE GIVEN ROWS OF THIS SEAT. 6 by the template 'for every input the law returns true; each argument reads behind the call as it read before'; 0 by the template 'total and deterministic' (their statements: YtkjahjknmfjmkafTotals.lean).
  GIVEN WITH THE SEED: the statements are not yours to turn. If you find one false, say at which input.
  Laid BY PROGRAM, IN A SANDBOX (cutbox-rows.mjs): the forced cells as the released guide's own fill.sh prints them over the translation 88a319c79fed7844… (all of the seat's roots in one cut). By AI agents, Wed Nov 11 2026. No macro, syntax, notation, axiom, sorry.
-/
import Derived.Test.YtkjahjknmfjmkafChecked
import GoSem.Claim
import GoSem.ClaimJoined
import GoSem.ClaimMapViews
import Derived.JoinedTies
import Derived.KernelRfl
namespace Go.Proofs.Ytkjahjknmfjmkaf
/- THE CELL 'sum', in the pinned program and in every row, IS THE sha256 OF THE DUMP (.gsa) THAT YtkjahjknmfjmkafProg.lean LOADS. Nothing in Lean hashes anything: it is a label: what it is worth is what the hold of that sum in a sandbox is worth. -/
noncomputable def Try.pinned : Pinned := { name := "ytkjahjknmfjmkaf", sum := "88a319c79fed7844709a1fe6e64fdd1106037efd776d9e2a4253d4842fc6c97b", checked := Try.checked }
namespace Rows
def none {H : Type} : Left H := { results := [], args := [] }

/-- 'tackroomlaw.SessionLeaves': WHATEVER THE INPUT: true; the input reads as it did. -/
def sessionLeavesSpec : ChangeSpec := { name := "sessionLeaves", fn := fun _ => fun
  | [d1, d2, d3] => { results := [.lit (.bool true)], args := [d1, d2, d3] }
  | _ => none }
def sessionLeavesRow : OpenClaim := { program := "ytkjahjknmfjmkaf", sum := "88a319c79fed7844709a1fe6e64fdd1106037efd776d9e2a4253d4842fc6c97b", func := "tackroom/tackroomlaw.SessionLeaves", spec := "sessionLeaves", unfollowed := true, recurses := true, apart := false }
def SessionLeavesSaid : Prop := sessionLeavesRow.holds Try.pinned (OpenSpec.ofChange sessionLeavesSpec)

/-- ITS FALSE NEIGHBOUR: 'it returns false'. Refute it at one input. -/
def sessionLeavesWrong : ChangeSpec := { name := "sessionLeaves", fn := fun _ => fun
  | [d1, d2, d3] => { results := [.lit (.bool false)], args := [d1, d2, d3] }
  | _ => none }
def SessionLeavesWrongFalsely : Prop := sessionLeavesRow.holds Try.pinned (OpenSpec.ofChange sessionLeavesWrong)

/-- 'tackroomlaw.SessionReady': WHATEVER THE INPUT: true; the input reads as it did. -/
def sessionReadySpec : ChangeSpec := { name := "sessionReady", fn := fun _ => fun
  | [d1, d2, d3] => { results := [.lit (.bool true)], args := [d1, d2, d3] }
  | _ => none }
def sessionReadyRow : OpenClaim := { program := "ytkjahjknmfjmkaf", sum := "88a319c79fed7844709a1fe6e64fdd1106037efd776d9e2a4253d4842fc6c97b", func := "tackroom/tackroomlaw.SessionReady", spec := "sessionReady", unfollowed := true, recurses := true, apart := false }
def SessionReadySaid : Prop := sessionReadyRow.holds Try.pinned (OpenSpec.ofChange sessionReadySpec)

/-- ITS FALSE NEIGHBOUR: 'it returns false'. Refute it at one input. -/
def sessionReadyWrong : ChangeSpec := { name := "sessionReady", fn := fun _ => fun
  | [d1, d2, d3] => { results := [.lit (.bool false)], args := [d1, d2, d3] }
  | _ => none }
def SessionReadyWrongFalsely : Prop := sessionReadyRow.holds Try.pinned (OpenSpec.ofChange sessionReadyWrong)

/-- 'tackroomlaw.SessionKeeps': WHATEVER THE INPUT: true; the input reads as it did. -/
def sessionKeepsSpec : ChangeSpec := { name := "sessionKeeps", fn := fun _ => fun
  | [d1, d2, d3, d4, d5] => { results := [.lit (.bool true)], args := [d1, d2, d3, d4, d5] }
  | _ => none }
def sessionKeepsRow : OpenClaim := { program := "ytkjahjknmfjmkaf", sum := "88a319c79fed7844709a1fe6e64fdd1106037efd776d9e2a4253d4842fc6c97b", func := "tackroom/tackroomlaw.SessionKeeps", spec := "sessionKeeps", inPlace := ["slices.overlaps[tackroom/api.Kept]"], unfollowed := true, recurses := true, apart := false }
def SessionKeepsSaid : Prop := sessionKeepsRow.holds Try.pinned (OpenSpec.ofChange sessionKeepsSpec)

/-- ITS FALSE NEIGHBOUR: 'it returns false'. Refute it at one input. -/
def sessionKeepsWrong : ChangeSpec := { name := "sessionKeeps", fn := fun _ => fun
  | [d1, d2, d3, d4, d5] => { results := [.lit (.bool false)], args := [d1, d2, d3, d4, d5] }
  | _ => none }
def SessionKeepsWrongFalsely : Prop := sessionKeepsRow.holds Try.pinned (OpenSpec.ofChange sessionKeepsWrong)

/-- 'tackroomkeep.CallsOnce': WHATEVER THE INPUT: true; the input reads as it did. -/
def callsOnceSpec : ChangeSpec := { name := "callsOnce", fn := fun _ => fun
  | [d1, d2, d3] => { results := [.lit (.bool true)], args := [d1, d2, d3] }
  | _ => none }
def callsOnceRow : OpenClaim := { program := "ytkjahjknmfjmkaf", sum := "88a319c79fed7844709a1fe6e64fdd1106037efd776d9e2a4253d4842fc6c97b", func := "tackroom/tackroomkeep.CallsOnce", spec := "callsOnce", inPlace := ["slices.overlaps[tackroom/api.Session]", "slices.overlaps[tackroom/api.Kept]"], unfollowed := true, recurses := true, apart := false }
def CallsOnceSaid : Prop := callsOnceRow.holds Try.pinned (OpenSpec.ofChange callsOnceSpec)

/-- ITS FALSE NEIGHBOUR: 'it returns false'. Refute it at one input. -/
def callsOnceWrong : ChangeSpec := { name := "callsOnce", fn := fun _ => fun
  | [d1, d2, d3] => { results := [.lit (.bool false)], args := [d1, d2, d3] }
  | _ => none }
def CallsOnceWrongFalsely : Prop := callsOnceRow.holds Try.pinned (OpenSpec.ofChange callsOnceWrong)

/-- 'tackroomkeep.SessionsEnd': WHATEVER THE INPUT: true; the input reads as it did. -/
def sessionsEndSpec : ChangeSpec := { name := "sessionsEnd", fn := fun _ => fun
  | [d1, d2] => { results := [.lit (.bool true)], args := [d1, d2] }
  | _ => none }
def sessionsEndRow : OpenClaim := { program := "ytkjahjknmfjmkaf", sum := "88a319c79fed7844709a1fe6e64fdd1106037efd776d9e2a4253d4842fc6c97b", func := "tackroom/tackroomkeep.SessionsEnd", spec := "sessionsEnd", inPlace := ["slices.overlaps[tackroom/api.Session]"], unfollowed := true, recurses := true, apart := false }
def SessionsEndSaid : Prop := sessionsEndRow.holds Try.pinned (OpenSpec.ofChange sessionsEndSpec)

/-- ITS FALSE NEIGHBOUR: 'it returns false'. Refute it at one input. -/
def sessionsEndWrong : ChangeSpec := { name := "sessionsEnd", fn := fun _ => fun
  | [d1, d2] => { results := [.lit (.bool false)], args := [d1, d2] }
  | _ => none }
def SessionsEndWrongFalsely : Prop := sessionsEndRow.holds Try.pinned (OpenSpec.ofChange sessionsEndWrong)

/-- 'tackroomlaw.MachineChecks': WHATEVER THE INPUT: true; the input reads as it did. -/
def machineChecksSpec : ChangeSpec := { name := "machineChecks", fn := fun _ => fun
  | [d] => { results := [.lit (.bool true)], args := [d] }
  | _ => none }
def machineChecksRow : OpenClaim := { program := "ytkjahjknmfjmkaf", sum := "88a319c79fed7844709a1fe6e64fdd1106037efd776d9e2a4253d4842fc6c97b", func := "tackroom/tackroomlaw.MachineChecks", spec := "machineChecks", apart := false }
def MachineChecksSaid : Prop := machineChecksRow.holds Try.pinned (OpenSpec.ofChange machineChecksSpec)

/-- ITS FALSE NEIGHBOUR: 'it returns false'. Refute it at one input. -/
def machineChecksWrong : ChangeSpec := { name := "machineChecks", fn := fun _ => fun
  | [d] => { results := [.lit (.bool false)], args := [d] }
  | _ => none }
def MachineChecksWrongFalsely : Prop := machineChecksRow.holds Try.pinned (OpenSpec.ofChange machineChecksWrong)

/- THE SECOND FORM. 'bulk': how many values and letters a reading holds, each counted each time it is reached (what is shared counts as often as it is met; a slice's spare places count too). A statement '..UptoSaid' is the law's where the arguments, and the package variables that the reading takes, are together of bulk at most 1048576: NARROWER than '..Said'. Prove '..Said' where nothing that the law and all that it calls make is longer than what came in: it says more and counts as full. Else prove '..UptoSaid'. A law counts once. -/
mutual
def uptoBulk {H : Type} : DataW H → Nat
  | .lit (.string bytes) => bytes.length + 1
  | .lit _ => 1
  | .nil => 1
  | .ptr d => uptoBulk d + 1
  | .slice elems spare => uptoBulkAll elems + uptoBulkAll spare + 1
  | .agg parts => uptoBulkAll parts + 1
  | .iface _ d => uptoBulk d + 1
  | .map entries => uptoBulkEntries entries + 1
  | .held _ => 1
def uptoBulkAll {H : Type} : List (DataW H) → Nat
  | [] => 0
  | d :: r => uptoBulk d + uptoBulkAll r
def uptoBulkEntries {H : Type} : List (Lit × DataW H) → Nat
  | [] => 0
  | x :: r => uptoBulkEntry x + uptoBulkEntries r
def uptoBulkEntry {H : Type} : Lit × DataW H → Nat
  | (.string bytes, d) => bytes.length + uptoBulk d + 1
  | (_, d) => uptoBulk d + 1
 end
def uptoSmall : (H : Type) → List (DataW H) → Bool := fun _ ds => decide (uptoBulkAll ds ≤ 1048576)
def OpenSpec.upto (s : _root_.Go.ChangeSpec) : _root_.Go.OpenSpec := { _root_.Go.OpenSpec.ofChange s with cond := some uptoSmall }

/-- 'tackroomlaw.SessionLeaves', WHERE WHAT IT READS IS OF BULK AT MOST 1048576: true; the input reads as it did. -/
def sessionLeavesUptoRow : OpenClaim := { program := "ytkjahjknmfjmkaf", sum := "88a319c79fed7844709a1fe6e64fdd1106037efd776d9e2a4253d4842fc6c97b", func := "tackroom/tackroomlaw.SessionLeaves", spec := "sessionLeaves", unfollowed := true, recurses := true, apart := false, narrowed := true }
def SessionLeavesUptoSaid : Prop := sessionLeavesUptoRow.holds Try.pinned (OpenSpec.upto sessionLeavesSpec)

/-- 'tackroomlaw.SessionReady', WHERE WHAT IT READS IS OF BULK AT MOST 1048576: true; the input reads as it did. -/
def sessionReadyUptoRow : OpenClaim := { program := "ytkjahjknmfjmkaf", sum := "88a319c79fed7844709a1fe6e64fdd1106037efd776d9e2a4253d4842fc6c97b", func := "tackroom/tackroomlaw.SessionReady", spec := "sessionReady", unfollowed := true, recurses := true, apart := false, narrowed := true }
def SessionReadyUptoSaid : Prop := sessionReadyUptoRow.holds Try.pinned (OpenSpec.upto sessionReadySpec)

/-- 'tackroomlaw.SessionKeeps', WHERE WHAT IT READS IS OF BULK AT MOST 1048576: true; the input reads as it did. -/
def sessionKeepsUptoRow : OpenClaim := { program := "ytkjahjknmfjmkaf", sum := "88a319c79fed7844709a1fe6e64fdd1106037efd776d9e2a4253d4842fc6c97b", func := "tackroom/tackroomlaw.SessionKeeps", spec := "sessionKeeps", inPlace := ["slices.overlaps[tackroom/api.Kept]"], unfollowed := true, recurses := true, apart := false, narrowed := true }
def SessionKeepsUptoSaid : Prop := sessionKeepsUptoRow.holds Try.pinned (OpenSpec.upto sessionKeepsSpec)

/-- 'tackroomkeep.CallsOnce', WHERE WHAT IT READS IS OF BULK AT MOST 1048576: true; the input reads as it did. -/
def callsOnceUptoRow : OpenClaim := { program := "ytkjahjknmfjmkaf", sum := "88a319c79fed7844709a1fe6e64fdd1106037efd776d9e2a4253d4842fc6c97b", func := "tackroom/tackroomkeep.CallsOnce", spec := "callsOnce", inPlace := ["slices.overlaps[tackroom/api.Session]", "slices.overlaps[tackroom/api.Kept]"], unfollowed := true, recurses := true, apart := false, narrowed := true }
def CallsOnceUptoSaid : Prop := callsOnceUptoRow.holds Try.pinned (OpenSpec.upto callsOnceSpec)

/-- 'tackroomkeep.SessionsEnd', WHERE WHAT IT READS IS OF BULK AT MOST 1048576: true; the input reads as it did. -/
def sessionsEndUptoRow : OpenClaim := { program := "ytkjahjknmfjmkaf", sum := "88a319c79fed7844709a1fe6e64fdd1106037efd776d9e2a4253d4842fc6c97b", func := "tackroom/tackroomkeep.SessionsEnd", spec := "sessionsEnd", inPlace := ["slices.overlaps[tackroom/api.Session]"], unfollowed := true, recurses := true, apart := false, narrowed := true }
def SessionsEndUptoSaid : Prop := sessionsEndUptoRow.holds Try.pinned (OpenSpec.upto sessionsEndSpec)

/-- 'tackroomlaw.MachineChecks', WHERE WHAT IT READS IS OF BULK AT MOST 1048576: true; the input reads as it did. -/
def machineChecksUptoRow : OpenClaim := { program := "ytkjahjknmfjmkaf", sum := "88a319c79fed7844709a1fe6e64fdd1106037efd776d9e2a4253d4842fc6c97b", func := "tackroom/tackroomlaw.MachineChecks", spec := "machineChecks", apart := false, narrowed := true }
def MachineChecksUptoSaid : Prop := machineChecksUptoRow.holds Try.pinned (OpenSpec.upto machineChecksSpec)

end Rows
end Go.Proofs.Ytkjahjknmfjmkaf
