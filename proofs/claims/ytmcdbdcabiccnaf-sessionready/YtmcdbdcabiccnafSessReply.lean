/- The place of a call's reply among its results; sessions of the call's own beside it. -/
import Derived.Test.YtmcdbdcabiccnafSessOwn
namespace Go.Proofs.Ytmcdbdcabiccnaf
open Go.RowKit

/-- An empty reply lies in the block b. -/
def GReply (w : World) (b : Nat) : Prop := w.heap[b]? = some (.cells #[.int .i64 0, .int .i64 0, .string ⟨#[]⟩] 26 (0, 0))

theorem GReply.cells {w : World} {b : Nat} (h : GReply w b) : w.cell? ⟨b, 0, none⟩ = some (.int .i64 0) ∧ w.cell? ⟨b, 1, none⟩ = some (.int .i64 0) ∧ w.cell? ⟨b, 2, none⟩ = some (.string ⟨#[]⟩) ∧ ∀ j, w.frozen? ⟨b, j, none⟩ = false :=
  ⟨cell_of_row w b 0 _ _ _ h, cell_of_row w b 1 _ _ _ h, cell_of_row w b 2 _ _ _ h, fun j => frozen_of_row w b j _ _ h⟩

theorem GReply.below {w w' : World} {b : Nat} (h : GReply w b) {B : Nat} (hb : Below B w w') (hB : b < B) : GReply w' b := (hb.block b hB).trans h
theorem GReply.touch {w w' : World} {b : Nat} {S : Nat → Prop} (h : GReply w b) (hb : TouchG w w' S) (hS : ¬ S b) : GReply w' b := (hb.block b (lt_of_block h) hS).trans h
theorem GReply.lt {w : World} {b : Nat} (h : GReply w b) : b < w.heap.size := lt_of_block h
theorem GReply.new (w : World) : GReply (w.alloc (.cells #[.int .i64 0, .int .i64 0, .string ⟨#[]⟩] 26)) w.heap.size := heap_alloc_new w _

theorem gbelow3 {B : Nat} {w w' : World} (h : Below B w w') {b : Nat} (hb : B ≤ b) (x y z : Value) : Below B w (((w'.setCell ⟨b, 0, none⟩ x).setCell ⟨b, 1, none⟩ y).setCell ⟨b, 2, none⟩ z) :=
  ((h.setCell (by simpa using hb) x).setCell (by simpa using hb) y).setCell (by simpa using hb) z

/-- What lies above is left by three stores below. -/
theorem OwnS.low3 {w : World} {base : Nat} {v : Value} {rs : List (SessD × Value)} (h : OwnS w base v rs) {b : Nat} (hb : b < base) (x y z : Value) : OwnS (((w.setCell ⟨b, 0, none⟩ x).setCell ⟨b, 1, none⟩ y).setCell ⟨b, 2, none⟩ z) base v rs := by
  have key : ∀ c, base ≤ c → (((w.setCell ⟨b, 0, none⟩ x).setCell ⟨b, 1, none⟩ y).setCell ⟨b, 2, none⟩ z).heap[c]? = w.heap[c]? := fun c hc => by
    rw [heap_setCell_other _ _ _ _ (by simp; omega), heap_setCell_other _ _ _ _ (by simp; omega), heap_setCell_other _ _ _ _ (by simp; omega)]
  exact h.keep (fun c hc => key c (h.row.lt c hc).1) (fun c hc => key c (h.reps.lt hc).1)

theorem OwnS.size3 (w : World) (b : Nat) (x y z : Value) : (((w.setCell ⟨b, 0, none⟩ x).setCell ⟨b, 1, none⟩ y).setCell ⟨b, 2, none⟩ z).heap.size = w.heap.size := by simp [World.setCell]

/-- Sessions of the call's own, behind the stores of its reply, and draws. -/
theorem OwnS.out3 {w : World} {base : Nat} {v : Value} {rs : List (SessD × Value)} (h : OwnS w base v rs) {b : Nat} (hb : b < base) (x y z : Value) : SessR (((w.setCell ⟨b, 0, none⟩ x).setCell ⟨b, 1, none⟩ y).setCell ⟨b, 2, none⟩ z) (((w.setCell ⟨b, 0, none⟩ x).setCell ⟨b, 1, none⟩ y).setCell ⟨b, 2, none⟩ z).heap.size v (rs.map (·.1)) :=
  (h.low3 hb x y z).reads (Nat.le_refl _)
end Go.Proofs.Ytmcdbdcabiccnaf
