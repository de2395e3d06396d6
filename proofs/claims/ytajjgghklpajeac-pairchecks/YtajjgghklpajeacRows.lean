/-
  No cell of these rows narrows 'for every input' (looked for: loops, veiled, ifaces, maps, wideKeys, modest, calm, conditions, laid).
  DERIVED. THE GIVEN ROWS OF THIS SEAT. 6 by the template 'for every input the law returns true; each argument reads behind the call as it read before'; 0 by the template 'total and deterministic' (their statements: YtajjgghklpajeacTotals.lean).
  GIVEN WITH THE SEED: the statements are not yours to turn. If you find one false, say at which input.
  Laid BY PROGRAM, IN A SANDBOX (cutbox-rows.mjs): the forced cells as the released guide's own fill.sh prints them over the translation b4ae283be8d50d45… (all of the seat's roots in one cut). By AI agents, Wed Nov 11 2026. No macro, syntax, notation, axiom, sorry.
-/
import Derived.Test.YtajjgghklpajeacChecked
import GoSem.Claim
import GoSem.ClaimJoined
import GoSem.ClaimMapViews
import Derived.JoinedTies
import Derived.KernelRfl
namespace Go.Proofs.Ytajjgghklpajeac
/- THE CELL 'sum', in the pinned program and in every row, IS THE sha256 OF THE DUMP (.gsa) THAT YtajjgghklpajeacProg.lean LOADS. Nothing in Lean hashes anything: it is a label: what it is worth is what the hold of that sum in a sandbox is worth. -/
noncomputable def Try.pinned : Pinned := { name := "ytajjgghklpajeac", sum := "b4ae283be8d50d457a9ef1178020522bacecac3844ffce5f8097c339474f7ffc", checked := Try.checked }
namespace Rows
def none {H : Type} : Left H := { results := [], args := [] }

/-- 'tackroomlaw.LockGone': WHATEVER THE INPUT: true; the input reads as it did. -/
def lockGoneSpec : ChangeSpec := { name := "lockGone", fn := fun _ => fun
  | [d1, d2] => { results := [.lit (.bool true)], args := [d1, d2] }
  | _ => none }
def lockGoneRow : OpenClaim := { program := "ytajjgghklpajeac", sum := "b4ae283be8d50d457a9ef1178020522bacecac3844ffce5f8097c339474f7ffc", func := "tackroom/tackroomlaw.LockGone", spec := "lockGone", apart := false }
def LockGoneSaid : Prop := lockGoneRow.holds Try.pinned (OpenSpec.ofChange lockGoneSpec)

/-- ITS FALSE NEIGHBOUR: 'it returns false'. Refute it at one input. -/
def lockGoneWrong : ChangeSpec := { name := "lockGone", fn := fun _ => fun
  | [d1, d2] => { results := [.lit (.bool false)], args := [d1, d2] }
  | _ => none }
def LockGoneWrongFalsely : Prop := lockGoneRow.holds Try.pinned (OpenSpec.ofChange lockGoneWrong)

/-- 'tackroomlaw.LockWho': WHATEVER THE INPUT: true; the input reads as it did. -/
def lockWhoSpec : ChangeSpec := { name := "lockWho", fn := fun _ => fun
  | [d1, d2] => { results := [.lit (.bool true)], args := [d1, d2] }
  | _ => none }
def lockWhoRow : OpenClaim := { program := "ytajjgghklpajeac", sum := "b4ae283be8d50d457a9ef1178020522bacecac3844ffce5f8097c339474f7ffc", func := "tackroom/tackroomlaw.LockWho", spec := "lockWho", unfollowed := true, recurses := true, apart := false }
def LockWhoSaid : Prop := lockWhoRow.holds Try.pinned (OpenSpec.ofChange lockWhoSpec)

/-- ITS FALSE NEIGHBOUR: 'it returns false'. Refute it at one input. -/
def lockWhoWrong : ChangeSpec := { name := "lockWho", fn := fun _ => fun
  | [d1, d2] => { results := [.lit (.bool false)], args := [d1, d2] }
  | _ => none }
def LockWhoWrongFalsely : Prop := lockWhoRow.holds Try.pinned (OpenSpec.ofChange lockWhoWrong)

/-- 'tackroomkeep.LocksOne': WHATEVER THE INPUT: true; the input reads as it did. -/
def locksOneSpec : ChangeSpec := { name := "locksOne", fn := fun _ => fun
  | [d1, d2, d3] => { results := [.lit (.bool true)], args := [d1, d2, d3] }
  | _ => none }
def locksOneRow : OpenClaim := { program := "ytajjgghklpajeac", sum := "b4ae283be8d50d457a9ef1178020522bacecac3844ffce5f8097c339474f7ffc", func := "tackroom/tackroomkeep.LocksOne", spec := "locksOne", inPlace := ["slices.overlaps[tackroom/api.Lock]"], unfollowed := true, recurses := true, apart := false }
def LocksOneSaid : Prop := locksOneRow.holds Try.pinned (OpenSpec.ofChange locksOneSpec)

/-- ITS FALSE NEIGHBOUR: 'it returns false'. Refute it at one input. -/
def locksOneWrong : ChangeSpec := { name := "locksOne", fn := fun _ => fun
  | [d1, d2, d3] => { results := [.lit (.bool false)], args := [d1, d2, d3] }
  | _ => none }
def LocksOneWrongFalsely : Prop := locksOneRow.holds Try.pinned (OpenSpec.ofChange locksOneWrong)

/-- 'tackroomkeep.LinesFair': WHATEVER THE INPUT: true; the input reads as it did. -/
def linesFairSpec : ChangeSpec := { name := "linesFair", fn := fun _ => fun
  | [d1, d2] => { results := [.lit (.bool true)], args := [d1, d2] }
  | _ => none }
def linesFairRow : OpenClaim := { program := "ytajjgghklpajeac", sum := "b4ae283be8d50d457a9ef1178020522bacecac3844ffce5f8097c339474f7ffc", func := "tackroom/tackroomkeep.LinesFair", spec := "linesFair", inPlace := ["slices.overlaps[tackroom/api.Lock]"], unfollowed := true, recurses := true, apart := false }
def LinesFairSaid : Prop := linesFairRow.holds Try.pinned (OpenSpec.ofChange linesFairSpec)

/-- ITS FALSE NEIGHBOUR: 'it returns false'. Refute it at one input. -/
def linesFairWrong : ChangeSpec := { name := "linesFair", fn := fun _ => fun
  | [d1, d2] => { results := [.lit (.bool false)], args := [d1, d2] }
  | _ => none }
def LinesFairWrongFalsely : Prop := linesFairRow.holds Try.pinned (OpenSpec.ofChange linesFairWrong)

/-- 'tackroomkeep.GoneAll': WHATEVER THE INPUT: true; the input reads as it did. -/
def goneAllSpec : ChangeSpec := { name := "goneAll", fn := fun _ => fun
  | [d1, d2] => { results := [.lit (.bool true)], args := [d1, d2] }
  | _ => none }
def goneAllRow : OpenClaim := { program := "ytajjgghklpajeac", sum := "b4ae283be8d50d457a9ef1178020522bacecac3844ffce5f8097c339474f7ffc", func := "tackroom/tackroomkeep.GoneAll", spec := "goneAll", inPlace := ["slices.overlaps[tackroom/api.Lock]"], unfollowed := true, recurses := true, apart := false }
def GoneAllSaid : Prop := goneAllRow.holds Try.pinned (OpenSpec.ofChange goneAllSpec)

/-- ITS FALSE NEIGHBOUR: 'it returns false'. Refute it at one input. -/
def goneAllWrong : ChangeSpec := { name := "goneAll", fn := fun _ => fun
  | [d1, d2] => { results := [.lit (.bool false)], args := [d1, d2] }
  | _ => none }
def GoneAllWrongFalsely : Prop := goneAllRow.holds Try.pinned (OpenSpec.ofChange goneAllWrong)

/-- 'tackroomlaw.PairChecks': WHATEVER THE INPUT: true; the input reads as it did. -/
def pairChecksSpec : ChangeSpec := { name := "pairChecks", fn := fun _ => fun
  | [d] => { results := [.lit (.bool true)], args := [d] }
  | _ => none }
def pairChecksRow : OpenClaim := { program := "ytajjgghklpajeac", sum := "b4ae283be8d50d457a9ef1178020522bacecac3844ffce5f8097c339474f7ffc", func := "tackroom/tackroomlaw.PairChecks", spec := "pairChecks", apart := false }
def PairChecksSaid : Prop := pairChecksRow.holds Try.pinned (OpenSpec.ofChange pairChecksSpec)

/-- ITS FALSE NEIGHBOUR: 'it returns false'. Refute it at one input. -/
def pairChecksWrong : ChangeSpec := { name := "pairChecks", fn := fun _ => fun
  | [d] => { results := [.lit (.bool false)], args := [d] }
  | _ => none }
def PairChecksWrongFalsely : Prop := pairChecksRow.holds Try.pinned (OpenSpec.ofChange pairChecksWrong)

/- THE SECOND FORM. 'bulk': how many values and letters a reading holds, each counted each time it is reached (what is shared counts as often as it is met; a slice's spare places count too). A statement '..UptoSaid' is the law's where the arguments, and the package variables that the reading takes, are together of bulk at most 1048576: NARROWER than '..Said'. Prove '..Said' where nothing that the law and all that it calls make is longer than what came in: it says more and counts as full. Else prove '..UptoSaid'. A law counts once. -/
mutual
def uptoBulk {H : Type} : DataW H → Nat
  | .lit (.string bytes) => bytes.length + 1
  | .lit _ => 1
  | .nil => 1
  | .ptr d => uptoBulk d + 1
  | .slice elems spare => uptoBulkAll elems + uptoBulkAll spare + 1
  | .agg parts => uptoBulkAll parts + 1
  | .iface _ d => uptoBulk d + 1
  | .map entries => uptoBulkEntries entries + 1
  | .held _ => 1
def uptoBulkAll {H : Type} : List (DataW H) → Nat
  | [] => 0
  | d :: r => uptoBulk d + uptoBulkAll r
def uptoBulkEntries {H : Type} : List (Lit × DataW H) → Nat
  | [] => 0
  | x :: r => uptoBulkEntry x + uptoBulkEntries r
def uptoBulkEntry {H : Type} : Lit × DataW H → Nat
  | (.string bytes, d) => bytes.length + uptoBulk d + 1
  | (_, d) => uptoBulk d + 1
 end
def uptoSmall : (H : Type) → List (DataW H) → Bool := fun _ ds => decide (uptoBulkAll ds ≤ 1048576)
def OpenSpec.upto (s : _root_.Go.ChangeSpec) : _root_.Go.OpenSpec := { _root_.Go.OpenSpec.ofChange s with cond := some uptoSmall }

/-- 'tackroomlaw.LockGone', WHERE WHAT IT READS IS OF BULK AT MOST 1048576: true; the input reads as it did. -/
def lockGoneUptoRow : OpenClaim := { program := "ytajjgghklpajeac", sum := "b4ae283be8d50d457a9ef1178020522bacecac3844ffce5f8097c339474f7ffc", func := "tackroom/tackroomlaw.LockGone", spec := "lockGone", apart := false, narrowed := true }
def LockGoneUptoSaid : Prop := lockGoneUptoRow.holds Try.pinned (OpenSpec.upto lockGoneSpec)

/-- 'tackroomlaw.LockWho', WHERE WHAT IT READS IS OF BULK AT MOST 1048576: true; the input reads as it did. -/
def lockWhoUptoRow : OpenClaim := { program := "ytajjgghklpajeac", sum := "b4ae283be8d50d457a9ef1178020522bacecac3844ffce5f8097c339474f7ffc", func := "tackroom/tackroomlaw.LockWho", spec := "lockWho", unfollowed := true, recurses := true, apart := false, narrowed := true }
def LockWhoUptoSaid : Prop := lockWhoUptoRow.holds Try.pinned (OpenSpec.upto lockWhoSpec)

/-- 'tackroomkeep.LocksOne', WHERE WHAT IT READS IS OF BULK AT MOST 1048576: true; the input reads as it did. -/
def locksOneUptoRow : OpenClaim := { program := "ytajjgghklpajeac", sum := "b4ae283be8d50d457a9ef1178020522bacecac3844ffce5f8097c339474f7ffc", func := "tackroom/tackroomkeep.LocksOne", spec := "locksOne", inPlace := ["slices.overlaps[tackroom/api.Lock]"], unfollowed := true, recurses := true, apart := false, narrowed := true }
def LocksOneUptoSaid : Prop := locksOneUptoRow.holds Try.pinned (OpenSpec.upto locksOneSpec)

/-- 'tackroomkeep.LinesFair', WHERE WHAT IT READS IS OF BULK AT MOST 1048576: true; the input reads as it did. -/
def linesFairUptoRow : OpenClaim := { program := "ytajjgghklpajeac", sum := "b4ae283be8d50d457a9ef1178020522bacecac3844ffce5f8097c339474f7ffc", func := "tackroom/tackroomkeep.LinesFair", spec := "linesFair", inPlace := ["slices.overlaps[tackroom/api.Lock]"], unfollowed := true, recurses := true, apart := false, narrowed := true }
def LinesFairUptoSaid : Prop := linesFairUptoRow.holds Try.pinned (OpenSpec.upto linesFairSpec)

/-- 'tackroomkeep.GoneAll', WHERE WHAT IT READS IS OF BULK AT MOST 1048576: true; the input reads as it did. -/
def goneAllUptoRow : OpenClaim := { program := "ytajjgghklpajeac", sum := "b4ae283be8d50d457a9ef1178020522bacecac3844ffce5f8097c339474f7ffc", func := "tackroom/tackroomkeep.GoneAll", spec := "goneAll", inPlace := ["slices.overlaps[tackroom/api.Lock]"], unfollowed := true, recurses := true, apart := false, narrowed := true }
def GoneAllUptoSaid : Prop := goneAllUptoRow.holds Try.pinned (OpenSpec.upto goneAllSpec)

/-- 'tackroomlaw.PairChecks', WHERE WHAT IT READS IS OF BULK AT MOST 1048576: true; the input reads as it did. -/
def pairChecksUptoRow : OpenClaim := { program := "ytajjgghklpajeac", sum := "b4ae283be8d50d457a9ef1178020522bacecac3844ffce5f8097c339474f7ffc", func := "tackroom/tackroomlaw.PairChecks", spec := "pairChecks", apart := false, narrowed := true }
def PairChecksUptoSaid : Prop := pairChecksUptoRow.holds Try.pinned (OpenSpec.upto pairChecksSpec)

end Rows
end Go.Proofs.Ytajjgghklpajeac
