/- The document's In: is a number from low to high? -/
import Derived.Test.YtajjgghklpajeadDoorRows
import Derived.WalkKit
import Derived.ProofKit
import Derived.WalkLawsBesides
namespace Go.Proofs.YtajjgghklpajeadDoor
open Go.RowKit

end Go.Proofs.YtajjgghklpajeadDoor
