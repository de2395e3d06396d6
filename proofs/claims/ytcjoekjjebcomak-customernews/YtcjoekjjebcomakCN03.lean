/- In the place of KTag.lean: nothing is asked of a row's block (for laws that open such rows as arguments) (joined by program) -/
import Derived.Test.YtcjoekjjebcomakRows
import Derived.Test.YtcjoekjjebcomakCN01
namespace Go.Proofs.Ytcjoekjjebcomak

open Go.RowKit

def TagB (_t : TypeId) (_w : World) (_b : Nat) : Prop := True

theorem TagB.block {t : TypeId} {w w' : World} {b : Nat} (_h : TagB t w b) (_e : w'.heap[b]? = w.heap[b]?) : TagB t w' b := trivial

end Go.Proofs.Ytcjoekjjebcomak
