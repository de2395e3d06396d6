/- Plain mathematics of numbers as digits of seven bits. It imports no program (joined by program) -/
import Derived.WalkKit
import Derived.ProofKit
import Derived.Laws.BytesArg
namespace Go.Proofs.Ytcjoekjjebcomak

open Go.RowKit

/-- Digits of seven bits, the lowest first, 128 more on all but the last; at most f + 1 of them. -/
def enc : Nat → Int → List Int
  | 0, m => [m]
  | f + 1, m => if m < 128 then [m] else (m % 128 + 128) :: enc f (m / 128)

end Go.Proofs.Ytcjoekjjebcomak
