/- log.Last; log.At (joined by program) -/
import Derived.WalkKit
import Derived.ProofKit
import Derived.Test.YtkmeiilnjkmkiaiDoorLP04
import Derived.Test.YtkmeiilnjkmkiaiDoorLP14
import Derived.Test.YtkmeiilnjkmkiaiDoorLP05
namespace Go.Proofs.YtkmeiilnjkmkiaiDoor

open Go.RowKit

set_option maxHeartbeats 800000 in
theorem last_raw (base : Int) (eo : Option Addr) (n ec : Nat) (w : World) (h0 : 0 ≤ base ∧ base ≤ 1073741424 ∧ n ≤ 400) :
    Calls Tryd.prog 11 #[.agg #[.int .i64 base, .slice eo n ec]] w fun e w' => e = .returned (.int .i64 (base + n)) ∧ Below w.heap.size w w' := by
  have HB0 : Hid (Below w.heap.size w (w.alloc (.cells #[.int .i64 base, .slice eo n ec] 28))) := (Below.refl _ _).alloc (Nat.le_refl _) _
  go_enter Tryd.func11, Tryd.ntmps11
  go_wp2
  go_ret
  exact ⟨rfl, HB0.out⟩

theorem last_any (v : Value) (l : LogD) (w : World) (B : Nat) (hv : LogR w B v l) (h0 : 0 ≤ l.base ∧ l.base ≤ 1073741424 ∧ l.ents.length ≤ 400) :
    Calls Tryd.prog 11 #[v] w fun e w' => e = .returned (.int .i64 (l.base + l.ents.length)) ∧ Below w.heap.size w w' := by
  obtain ⟨eo, ec, rfl, -⟩ := hv.shape
  exact last_raw _ _ _ _ w h0

/-- What a log that may be keeps to. -/
theorem logE_zero {l : LogD} (h : logE l = 0) : (0 ≤ l.base ∧ l.base ≤ 1073741424 ∧ l.ents.length ≤ 400) ∧ firstE l.ents = 0 := by
  unfold logE at h
  by_cases h1 : ¬ (0 ≤ l.base ∧ l.base ≤ 1073741424)
  · rw [if_pos h1] at h
    exact absurd h (by decide)
  · rw [if_neg h1] at h
    by_cases h2 : 400 < l.ents.length
    · rw [if_pos h2] at h
      exact absurd h (by decide)
    · rw [if_neg h2] at h
      exact ⟨by omega, h⟩

end Go.Proofs.YtkmeiilnjkmkiaiDoor

namespace Go.Proofs.YtkmeiilnjkmkiaiDoor

open Go.RowKit

/-- The log's block, behind a callee. -/
theorem box_after {w w1 : World} {o : Obj} (hb1 : Below (w.heap.size + 1) (w.alloc o) w1) : w1.heap[w.heap.size]? = some o ∧ Below w.heap.size w w1 :=
  ⟨(hb1.block _ (by omega)).trans (heap_alloc_new w o), ((Below.refl w.heap.size w).alloc (Nat.le_refl _) o).trans (hb1.mono (by omega))⟩

/-- A row of two blocks ahead of a callee: the log, the result. -/
theorem boxes_after {w w1 : World} {o r : Obj} (hb1 : Below (w.heap.size + 1 + 1) ((w.alloc o).alloc r) w1) : w1.heap[w.heap.size]? = some o ∧ w1.heap[w.heap.size + 1]? = some r ∧ Below w.heap.size w w1 := by
  obtain ⟨h1, h2⟩ := two_newB hb1
  exact ⟨h2, h1, (((Below.refl w.heap.size w).alloc (Nat.le_refl _) o).alloc (by simp) r).trans (hb1.mono (by omega))⟩

end Go.Proofs.YtkmeiilnjkmkiaiDoor
