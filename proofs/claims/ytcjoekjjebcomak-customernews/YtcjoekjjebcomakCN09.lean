/- The document's CustomerFault: what is wrong with a client (joined by program) -/
import Derived.Test.YtcjoekjjebcomakRows
import Derived.WalkKit
import Derived.ProofKit
import Derived.WalkLawsBesides
import Derived.Deep.Slices
import Derived.SizedLaws
import Derived.Carry
import Derived.ChangeArms
import Derived.OpenShut
import Derived.Below
import Derived.Deep.DeepCutAuto
import Derived.Laws.StructEq
import Derived.Test.YtcjoekjjebcomakCN08
import Derived.Test.YtcjoekjjebcomakCN07
namespace Go.Proofs.Ytcjoekjjebcomak

open Go.RowKit

theorem cin_no (n a b : Int) (w : World) (h : ¬ (a ≤ n ∧ n ≤ b)) :
    Calls Try.prog 25 #[.int .i64 n, .int .i64 a, .int .i64 b] w fun e w' => e = .returned (.bool false) ∧ w' = w := by
  by_cases h1 : n < a
  · exact in_low n a b w h1
  · exact in_high n a b w (by omega)

end Go.Proofs.Ytcjoekjjebcomak
