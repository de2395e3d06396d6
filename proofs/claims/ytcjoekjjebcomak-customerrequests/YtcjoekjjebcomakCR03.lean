/- Rows of elements of several cells each: what a value reads as, and a row of a call's own. No program is named but for the seat's namespace (joined by program) -/
import Derived.WalkKit
import Derived.ProofKit
import Derived.WalkLawsBesides
import Derived.Laws.Rows
import Derived.Laws.CopyOwn
import Derived.Laws.AppendOwn
import Derived.Below
namespace Go.Proofs.Ytcjoekjjebcomak

open Go.RowKit

theorem ghid {p : Prop} (h : p) : Hid p := h

theorem g_drewN_below (B : Nat) (w : World) (n : Nat) : Below B w (w.drewN n) := ⟨rfl, rfl, rfl, Nat.le_refl _, fun _ _ => rfl⟩

section

variable {α : Type} {c : α → List Value} {m : Nat}

end

section

variable {w w' : World} {base : Nat} {e : TypeId} {size : Nat} {v : Value} {n : Nat} {xs : List Value}

end

/-- w' is w but for blocks in S, and new ones. -/
structure TouchG (w w' : World) (S : Nat → Prop) : Prop where
  os : w'.os = w.os
  tape : w'.tape = w.tape
  output : w'.output = w.output
  size : w.heap.size ≤ w'.heap.size
  block : ∀ k, k < w.heap.size → ¬ S k → w'.heap[k]? = w.heap[k]?

theorem TouchG.refl (w : World) (S : Nat → Prop) : TouchG w w S := ⟨rfl, rfl, rfl, Nat.le_refl _, fun _ _ _ => rfl⟩

theorem TouchG.grown {w0 w w' : World} {S : Nat → Prop} {row : Option Nat} (h : TouchG w0 w S) (hg : w.grownBy w' row) (hr : ∀ k, row = some k → S k ∨ w0.heap.size ≤ k) : TouchG w0 w' S :=
  ⟨hg.os.trans h.os, hg.tape.trans h.tape, hg.output.trans h.output, Nat.le_trans h.size hg.size, fun k hk hs => (hg.block k (by have := h.size; omega) (fun e => by rcases hr k e.symm with h' | h'; exact hs h'; omega)).trans (h.block k hk hs)⟩

theorem TouchG.of_below {w w' : World} {B : Nat} (h : Below B w w') (hB : w.heap.size ≤ B) (S : Nat → Prop) : TouchG w w' S := ⟨h.os, h.tape, h.output, h.size, fun k hk _ => h.block k (by omega)⟩

theorem TouchG.trans {a b c : World} {S T : Nat → Prop} (h : TouchG a b S) (k : TouchG b c T) (hs : ∀ i, i < a.heap.size → T i → S i) : TouchG a c S :=
  ⟨k.os.trans h.os, k.tape.trans h.tape, k.output.trans h.output, Nat.le_trans h.size k.size, fun i hi hn => (k.block i (by have := h.size; omega) (fun ht => hn (hs i hi ht))).trans (h.block i hi hn)⟩

theorem TouchG.below {w w' : World} {S : Nat → Prop} (h : TouchG w w' S) {B : Nat} (hB : B ≤ w.heap.size) (hs : ∀ k, S k → B ≤ k) : Below B w w' :=
  ⟨h.os, h.tape, h.output, h.size, fun k hk => h.block k (by omega) (fun e => by have := hs k e; omega)⟩

theorem TouchG.drew {w0 w : World} {S : Nat → Prop} (h : TouchG w0 w S) (n : Nat) : TouchG w0 (w.drewN n) S := ⟨h.os, h.tape, h.output, h.size, h.block⟩

/-- w' is w but for old blocks below n, and new ones. -/
def NewR (n : Nat) (w : World) (R : World → Prop) : Prop := ∀ u, TouchG w u (fun k => k < n) → R u

theorem NewR.touch {n : Nat} {w w' : World} {R : World → Prop} (h : NewR n w R) {S : Nat → Prop} (ht : TouchG w w' S) (hs : ∀ k, k < w.heap.size → S k → k < n) : NewR n w' R := by
  intro u hu
  refine h u ⟨hu.os.trans ht.os, hu.tape.trans ht.tape, hu.output.trans ht.output, Nat.le_trans ht.size hu.size, fun k hk hn => ?_⟩
  exact (hu.block k (by have := ht.size; omega) hn).trans (ht.block k hk (fun e => hn (hs k hk e)))

theorem NewR.mono {n m : Nat} {w : World} {R : World → Prop} (h : NewR n w R) (hm : m ≤ n) : NewR m w R :=
  fun u hu => h u ⟨hu.os, hu.tape, hu.output, hu.size, fun k hk hn => hu.block k hk (by omega)⟩

theorem NewR.of (n : Nat) (w : World) {R : World → Prop} (h : ∀ u, R u) : NewR n w R := fun u _ => h u

theorem NewR.below {n : Nat} {w w' : World} {R : World → Prop} (h : NewR n w R) (hb : Below w.heap.size w w') : NewR n w' R :=
  h.touch (TouchG.of_below hb (Nat.le_refl _) (fun _ => False)) (fun _ _ h => h.elim)

section

variable {P : Program}

end

end Go.Proofs.Ytcjoekjjebcomak
