/- The document's In: is a number from low to high? (joined by program) -/
import Derived.Test.YtcjoekjjebcomalRows
import Derived.WalkKit
import Derived.ProofKit
import Derived.WalkLawsBesides
namespace Go.Proofs.Ytcjoekjjebcomal

open Go.RowKit

theorem in_yes (n a b : Int) (w : World) (h : a ≤ n) (h' : n ≤ b) :
    Calls Try.prog 12 #[.int .i64 n, .int .i64 a, .int .i64 b] w fun e w' => e = .returned (.bool true) ∧ w' = w := by
  go_enter Try.func12, Try.ntmps12
  go_wp2
  go_ret
  exact ⟨rfl, rfl⟩

theorem in_low (n a b : Int) (w : World) (h : n < a) :
    Calls Try.prog 12 #[.int .i64 n, .int .i64 a, .int .i64 b] w fun e w' => e = .returned (.bool false) ∧ w' = w := by
  have h1 : ¬ a ≤ n := by omega
  go_enter Try.func12, Try.ntmps12
  go_wp2
  go_ret
  exact ⟨rfl, rfl⟩

theorem in_high (n a b : Int) (w : World) (h : b < n) :
    Calls Try.prog 12 #[.int .i64 n, .int .i64 a, .int .i64 b] w fun e w' => e = .returned (.bool false) ∧ w' = w := by
  by_cases ha : n < a
  · exact in_low n a b w ha
  · have h1 : a ≤ n := by omega
    have h2 : ¬ n ≤ b := by omega
    go_enter Try.func12, Try.ntmps12
    go_wp2
    go_ret
    exact ⟨rfl, rfl⟩

end Go.Proofs.Ytcjoekjjebcomal
