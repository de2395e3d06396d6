/- log.Last. -/
import Derived.Test.YtkmeiilnjkmkiahLogMem
import Derived.WalkKit
import Derived.ProofKit
namespace Go.Proofs.Ytkmeiilnjkmkiah
open Go.RowKit

set_option maxHeartbeats 800000 in
theorem last_raw (base : Int) (eo : Option Addr) (n ec : Nat) (w : World) (h0 : 0 ≤ base ∧ base ≤ 1073741424 ∧ n ≤ 400) :
    Calls Try.prog 12 #[.agg #[.int .i64 base, .slice eo n ec]] w fun e w' => e = .returned (.int .i64 (base + n)) ∧ Below w.heap.size w w' := by
  have HB0 : Hid (Below w.heap.size w (w.alloc (.cells #[.int .i64 base, .slice eo n ec] 24))) := (Below.refl _ _).alloc (Nat.le_refl _) _
  go_enter Try.func12, Try.ntmps12
  go_wp2
  go_ret
  exact ⟨rfl, HB0.out⟩

theorem last_any (v : Value) (l : LogD) (w : World) (B : Nat) (hv : LogR w B v l) (h0 : 0 ≤ l.base ∧ l.base ≤ 1073741424 ∧ l.ents.length ≤ 400) :
    Calls Try.prog 12 #[v] w fun e w' => e = .returned (.int .i64 (l.base + l.ents.length)) ∧ Below w.heap.size w w' := by
  obtain ⟨eo, ec, rfl, -⟩ := hv.shape
  exact last_raw _ _ _ _ w h0

/-- What a log that may be keeps to. -/
theorem logE_zero {l : LogD} (h : logE l = 0) : (0 ≤ l.base ∧ l.base ≤ 1073741424 ∧ l.ents.length ≤ 400) ∧ firstE l.ents = 0 := by
  unfold logE at h
  by_cases h1 : ¬ (0 ≤ l.base ∧ l.base ≤ 1073741424)
  · rw [if_pos h1] at h
    exact absurd h (by decide)
  · rw [if_neg h1] at h
    by_cases h2 : 400 < l.ents.length
    · rw [if_pos h2] at h
      exact absurd h (by decide)
    · rw [if_neg h2] at h
      exact ⟨by omega, h⟩
end Go.Proofs.Ytkmeiilnjkmkiah
