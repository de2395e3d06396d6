/- strings.Builder: a text is put behind what it has; all of it is told; by the shelf's contracts (joined by program) -/
import Derived.Shelf.Strings.BuilderK
import Derived.Test.YtcjoekjjebcomakRows
import Derived.WalkKit
import Derived.ProofKit
import Derived.WalkLawsBesides
namespace Go.Proofs.Ytcjoekjjebcomak

open Go.RowKit Go.Shelf

/-- The builder at block b has these bytes. -/
def BuiltB (B b : Nat) (l : List UInt8) (w : World) : Prop := Lib.IsBuilderF 62 5 B b (Lib.byteCells l) w

end Go.Proofs.Ytcjoekjjebcomak
