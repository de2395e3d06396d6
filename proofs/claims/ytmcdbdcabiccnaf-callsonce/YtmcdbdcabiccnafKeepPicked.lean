/- tackroomkeep.picked: a number from 0 to many - 1. -/
import Derived.Test.YtmcdbdcabiccnafRows
import Derived.WalkKit
import Derived.ProofKit
import Derived.WalkLawsBesides
namespace Go.Proofs.Ytmcdbdcabiccnaf
open Go.RowKit

/-- What picked answers. -/
def pickZ (n m : Int) : Int := if n < 0 then (-(n + 1)) % m else n % m

theorem pickZ_bd (n m : Int) (h : 0 < m) : 0 ≤ pickZ n m ∧ pickZ n m < m := by
  unfold pickZ
  split
  · exact ⟨Int.emod_nonneg _ (by omega), Int.emod_lt_of_pos _ h⟩
  · exact ⟨Int.emod_nonneg _ (by omega), Int.emod_lt_of_pos _ h⟩

theorem pick_neg (n m : Int) (h : n < 0) : -((n + 1).tmod m) = pickZ n m := by
  have e : n + 1 = -(-(n + 1)) := by omega
  unfold pickZ
  rw [if_pos h]
  conv => lhs; rw [e, Int.neg_tmod, Int.tmod_eq_emod_of_nonneg (by omega)]
  omega

theorem pick_pos (n m : Int) (h : ¬ n < 0) : n % m = pickZ n m := by unfold pickZ; rw [if_neg h]

theorem picked_any (n m : Int) (w : World) (h1 : -9223372036854775808 ≤ n) (h2 : n ≤ 9223372036854775807) (h3 : 0 < m) (h4 : m ≤ 9223372036854775807) :
    Calls Try.prog 16 #[.int .i64 n, .int .i64 m] w fun e w' => e = .returned (.int .i64 (pickZ n m)) ∧ w' = w := by
  by_cases h : n < 0
  · have H : Hid (-((n + 1).tmod m) = pickZ n m) := pick_neg n m h
    go_enter Try.func16, Try.ntmps16
    go_wp2
    go_ret
    exact ⟨by rw [← H.out]; rfl, rfl⟩
  · have H : Hid (n % m = pickZ n m) := pick_pos n m h
    go_enter Try.func16, Try.ntmps16
    go_wp2
    go_ret
    exact ⟨by rw [← H.out]; rfl, rfl⟩
end Go.Proofs.Ytmcdbdcabiccnaf
