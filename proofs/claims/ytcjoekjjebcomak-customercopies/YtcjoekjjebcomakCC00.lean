/- Plain mathematics of names: 1 to 6 letters from a to z. It imports no program (joined by program) -/
import Derived.WalkKit
import Derived.ProofKit
namespace Go.Proofs.Ytcjoekjjebcomak

open Go.RowKit

/-- Is a text a name? -/
def nameB (s : ByteArray) : Bool := decide (1 ≤ s.size ∧ s.size ≤ 6 ∧ ∀ k, (h : k < s.size) → 97 ≤ s[k].toNat ∧ s[k].toNat ≤ 122)

end Go.Proofs.Ytcjoekjjebcomak
