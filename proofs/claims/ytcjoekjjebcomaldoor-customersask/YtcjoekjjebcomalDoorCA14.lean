/- customer.New, the document's CustomerOf; the walk of tackroomlaw.CustomerNews; Plain mathematics of numbers as digits of seven bits. It imports no program (joined by program) -/
import Derived.WalkKit
import Derived.ProofKit
import Derived.Laws.BytesArg
import Derived.Test.YtcjoekjjebcomalDoorCA05
namespace Go.Proofs.YtcjoekjjebcomalDoor

open Go.RowKit

theorem New_ok (n : Int) (w : World) (h : 1 ≤ n ∧ n ≤ 9) :
    Calls Tryd.prog 4 #[.int .i64 n] w fun e w' => e = .returned (.tuple #[.agg #[.int .i64 n, .int .i64 0, .int .i64 1, .slice none 0 0], .int .i64 0]) ∧ Below w.heap.size w w' := by
  go_enter Tryd.func4, Tryd.ntmps4
  go_wp2_with fail
  refine (isClient_yes n _ h).mono ?_
  rintro e w1 ⟨rfl, rfl⟩
  go_wp2
  refine bodyPost_ret (v := .tuple #[.agg #[.int .i64 n, .int .i64 0, .int .i64 1, .slice none 0 0], .int .i64 0]) (by simp [results, Tryd.results4, go_sem]) rfl ?_
  exact ⟨rfl, (Below.refl _ _).alloc (Nat.le_refl _) _⟩

end Go.Proofs.YtcjoekjjebcomalDoor

namespace Go.Proofs.YtcjoekjjebcomalDoor

open Go.RowKit

/-- Digits of seven bits, the lowest first, 128 more on all but the last; at most f + 1 of them. -/
def enc : Nat → Int → List Int
  | 0, m => [m]
  | f + 1, m => if m < 128 then [m] else (m % 128 + 128) :: enc f (m / 128)

/-- The bytes of a number (up to 2^42). -/
def encN (n : Int) : List Int := enc 5 n

theorem enc_small (f : Nat) (m : Int) (h : m < 128) : enc f m = [m] := by
  cases f <;> simp [enc, h]

theorem enc_step (f : Nat) (m : Int) (h : ¬ m < 128) : enc (f + 1) m = (m % 128 + 128) :: enc f (m / 128) := by
  simp [enc, h]

theorem enc_length (f : Nat) : ∀ m, 1 ≤ (enc f m).length ∧ (enc f m).length ≤ f + 1 := by
  induction f with
  | zero => intro m; simp [enc]
  | succ f ih =>
    intro m
    by_cases h : m < 128
    · simp [enc, h]
    · have := ih (m / 128); simp [enc, h]; omega

theorem encN_length (n : Int) : 1 ≤ (encN n).length ∧ (encN n).length ≤ 6 := enc_length 5 n

/-- How far a number reaches with f more digits. -/
def reach : Nat → Int
  | 0 => 128
  | f + 1 => 128 * reach f

theorem reach_div (f : Nat) (m : Int) (h0 : 0 ≤ m) (h : m < reach (f + 1)) : 0 ≤ m / 128 ∧ m / 128 < reach f := by
  simp only [reach] at h
  omega

end Go.Proofs.YtcjoekjjebcomalDoor
