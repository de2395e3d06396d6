/- Three blocks made ahead of a callee. It names no program (joined by program) -/
import Derived.Test.YtcjoekjjebcomalCH04
namespace Go.Proofs.Ytcjoekjjebcomal

open Go.RowKit

/-- Three blocks made ahead of a callee. -/
theorem three_newB {w w2 : World} {A R S : Obj} (hb : Below (w.heap.size + 3) (((w.alloc A).alloc R).alloc S) w2) : w2.heap[w.heap.size]? = some A ∧ w2.heap[w.heap.size + 1]? = some R ∧ w2.heap[w.heap.size + 1 + 1]? = some S := by
  have h1 := heap_alloc_new ((w.alloc A).alloc R) S
  rw [World.size_alloc, World.size_alloc] at h1
  obtain ⟨h2, h3⟩ := two_newB (w := w) (A := A) (R := R) (Below.refl _ _)
  refine ⟨?_, ?_, ?_⟩
  · rw [hb.block _ (by omega), Below.heap_alloc _ _ _ (by simp; omega)]
    exact h3
  · rw [hb.block _ (by omega), Below.heap_alloc _ _ _ (by simp)]
    exact h2
  · rw [hb.block _ (by omega)]
    exact h1

end Go.Proofs.Ytcjoekjjebcomal
