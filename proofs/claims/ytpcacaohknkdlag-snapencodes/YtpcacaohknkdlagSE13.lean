/- lock.named, lock.above, slices.IndexFunc with them; the document's lockAt (joined by program) -/
import Derived.Laws.Cover1
import Derived.Test.YtpcacaohknkdlagSE06
namespace Go.Proofs.Ytpcacaohknkdlag

open Go.RowKit

/-- Are two texts one? -/
def eqN (a b : ByteArray) : Bool := a.toList == b.toList

/-- Is a text above another one? -/
def gtN (a b : ByteArray) : Bool := !leN a b

end Go.Proofs.Ytpcacaohknkdlag
