/- Rows of pairs, put anew one by one (joined by program) -/
import Derived.Deep.DeepCutAuto
import Derived.Deep.RegionWith
import Derived.Test.YtbmfahgekcnkaaiRC19
import Derived.Test.YtbmfahgekcnkaaiRC12
namespace Go.Proofs.Ytbmfahgekcnkaai

open Go.RowKit

theorem pbcell {W w1 : World} (hb : Below W.heap.size W w1) : (∀ b o, b < W.heap.size → w1.cell? ⟨b, o, none⟩ = W.cell? ⟨b, o, none⟩) ∧ (∀ b o, b < W.heap.size → w1.frozen? ⟨b, o, none⟩ = W.frozen? ⟨b, o, none⟩) :=
  ⟨fun b o h => hb.cell (p := ⟨b, o, none⟩) h, fun b o h => hb.frozen (p := ⟨b, o, none⟩) h⟩

theorem three_of {α : Type} (Z : List α) (h : 3 ≤ Z.length) : ∃ z0 z1 z2 Z', Z = z0 :: z1 :: z2 :: Z' := by
  match Z, h with
  | z0 :: z1 :: z2 :: Z', _ => exact ⟨z0, z1, z2, Z', rfl⟩

theorem set3 {α : Type} (A Z : List α) (z0 z1 z2 a b c : α) (n : Nat) (hA : A.length = n) :
    (((A ++ z0 :: z1 :: z2 :: Z).set n a).set (n + 1) b).set (n + 2) c = A ++ a :: b :: c :: Z := by
  subst hA
  simp

/-- Three cells put into a row. -/
theorem put3_own {w : World} {base : Nat} {e : TypeId} {g n cap k : Nat} {A Z : List Value} {z0 z1 z2 : Value} (h : w.ownsRow base e 3 (.slice (some ⟨g, 0, none⟩) n cap) n (A ++ z0 :: z1 :: z2 :: Z)) (hA : A.length = k * 3) (a b c : Value) :
    (((w.setCell ⟨g, k * 3, none⟩ a).setCell ⟨g, k * 3 + 1, none⟩ b).setCell ⟨g, k * 3 + 2, none⟩ c).ownsRow base e 3 (.slice (some ⟨g, 0, none⟩) n cap) n (A ++ a :: b :: c :: Z) := by
  have h1 := (h.stored (k * 3) a).1
  have h2 := (h1.stored (k * 3 + 1) b).1
  have h3 := (h2.stored (k * 3 + 2) c).1
  rwa [set3 A Z z0 z1 z2 a b c (k * 3) hA] at h3

theorem put3_below {B : Nat} {w0 w : World} (h : Below B w0 w) {g k : Nat} (hg : B ≤ g) (a b c : Value) :
    Below B w0 (((w.setCell ⟨g, k * 3, none⟩ a).setCell ⟨g, k * 3 + 1, none⟩ b).setCell ⟨g, k * 3 + 2, none⟩ c) :=
  ((h.setCell (by simpa using hg) a).setCell (by simpa using hg) b).setCell (by simpa using hg) c

/-- The local pair, its texts put anew. -/
theorem pclone_cell {wr w1 w2 : World} {xn xv : ByteArray} {xe : Int}
    (hb1 : Below (wr.heap.size + 1) (wr.alloc (.cells #[.string xn, .string xv, .int .i64 xe] 78)) w1) (hb2 : Below w1.heap.size w1 w2) :
    ((w2.setCell ⟨wr.heap.size, 0, none⟩ (.string xn)).setCell ⟨wr.heap.size, 1, none⟩ (.string xv)).heap[wr.heap.size]? = some (.cells #[.string xn, .string xv, .int .i64 xe] 78 (0, 0)) ∧
    Below wr.heap.size wr ((w2.setCell ⟨wr.heap.size, 0, none⟩ (.string xn)).setCell ⟨wr.heap.size, 1, none⟩ (.string xv)) := by
  have hz1 : wr.heap.size + 1 ≤ w1.heap.size := by have := hb1.size; simpa using this
  have g2 : w2.heap[wr.heap.size]? = some (.cells #[.string xn, .string xv, .int .i64 xe] 78 (0, 0)) := by
    rw [hb2.block _ (by omega), hb1.block _ (by omega)]
    exact heap_alloc_new wr _
  have g3 := heap_setCell_same w2 wr.heap.size 0 _ 78 (.string xn) g2
  have g4 := heap_setCell_same _ wr.heap.size 1 _ 78 (.string xv) g3
  refine ⟨by simpa using g4, ?_⟩
  exact ((((Below.refl wr.heap.size wr).alloc (Nat.le_refl _) _).trans (hb1.mono (by omega))).trans (hb2.mono (by omega))).setCell (by simp) _ |>.setCell (by simp) _

end Go.Proofs.Ytbmfahgekcnkaai
