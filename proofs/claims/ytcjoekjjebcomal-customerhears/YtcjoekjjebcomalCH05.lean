/- In the place of KTag.lean: nothing is asked of a row's block (for laws that open such rows as arguments) (joined by program) -/
import Derived.Test.YtcjoekjjebcomalRows
import Derived.Test.YtcjoekjjebcomalCH03
namespace Go.Proofs.Ytcjoekjjebcomal

open Go.RowKit

def TagB (_t : TypeId) (_w : World) (_b : Nat) : Prop := True

theorem TagB.block {t : TypeId} {w w' : World} {b : Nat} (_h : TagB t w b) (_e : w'.heap[b]? = w.heap[b]?) : TagB t w' b := trivial

theorem TagB.of {t : TypeId} {w : World} {b : Nat} {cs : Array Value} {fr : Nat × Nat} (_h : w.heap[b]? = some (.cells cs t fr)) : TagB t w b := trivial

theorem TagB.row {t : TypeId} {w : World} {base m g n c n' : Nat} {xs : List Value} (_h : w.ownsRow base t m (.slice (some ⟨g, 0, none⟩) n c) n' xs) : TagB t w g := trivial

end Go.Proofs.Ytcjoekjjebcomal
