/- The document's In: is a number from low to high? -/
import Derived.Test.YtnclipjepefpjaeDoorRows
import Derived.WalkKit
import Derived.ProofKit
import Derived.WalkLawsBesides
namespace Go.Proofs.YtnclipjepefpjaeDoor
open Go.RowKit

end Go.Proofs.YtnclipjepefpjaeDoor
