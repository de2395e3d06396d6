/- lock.give, lock.giveUp, lock.leave, on one lock of a row of the call's own (joined by program) -/
import Derived.Shelf.Lays2
import Derived.Shelf.Slices.Delete
import Derived.Test.YtpcacaohknkdlagSE12
import Derived.Test.YtpcacaohknkdlagSE11
import Derived.Test.YtpcacaohknkdlagSE05
namespace Go.Proofs.Ytpcacaohknkdlag

open Go.RowKit

/-- A lock that is given up. -/
def giveUpX (x : LockD) : LockD :=
  match x.line with
  | [] => ⟨x.name, 0, x.fence, []⟩
  | a :: t => if x.fence = 1073741824 then ⟨x.name, 0, x.fence, []⟩ else ⟨x.name, a, x.fence + 1, t⟩

/-- A lock that a client has no more, and in whose line it stands no more. -/
def leaveX (x : LockD) (who : Int) : LockD := if x.holder = who then giveUpX x else { x with line := x.line.filter (· != who) }

theorem leaveX_holder {x : LockD} {who : Int} (h : x.holder = who) : leaveX x who = giveUpX x := by simp [leaveX, h]

end Go.Proofs.Ytpcacaohknkdlag
