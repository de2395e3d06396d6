/- lock.meet, lock.take, on one lock of a row of the call's own (joined by program) -/
import Derived.Lib.SliceRun
import Derived.Test.YtpcacaohknkdlagSE14
import Derived.Test.YtpcacaohknkdlagSE11
namespace Go.Proofs.Ytpcacaohknkdlag

open Go.RowKit

/-- A lock that another one has. -/
def meetX (x : LockD) (who : Int) (wait : Bool) : LockD × Int × Int :=
  if wait = true ∧ hasB who x.line = false then (if x.line.length = 3 then (x, 8, 0) else ({ x with line := x.line ++ [who] }, 10, x.holder)) else (x, 10, x.holder)

/-- A lock that is taken. -/
def takeX (x : LockD) (who : Int) (wait : Bool) : LockD × Int × Int :=
  if x.holder = who then (x, 0, x.fence) else if x.holder ≠ 0 then meetX x who wait else if x.fence = 1073741824 then (x, 8, 0) else ({ x with holder := who, fence := x.fence + 1 }, 0, x.fence + 1)

theorem OwnL.lt {w : World} {base : Nat} {v : Value} {rs : List (LockD × Value)} (h : OwnL w base v rs) : (∀ b, v.ownBlock = some b → b < w.heap.size) ∧ ∀ b ∈ lineBlocks rs, b < w.heap.size :=
  ⟨fun b hb => (h.row.lt b hb).2, fun _ hb => (h.lines.lt hb).2⟩

end Go.Proofs.Ytpcacaohknkdlag
