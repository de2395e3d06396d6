/- A row of pairs of the call's own: kept, put anew. -/
import Derived.Test.YtkjahjknmfjmkagPairMem
namespace Go.Proofs.Ytkjahjknmfjmkag
open Go.RowKit

theorem prow_keep {w w' : World} {base : Nat} {e : TypeId} {size : Nat} {v : Value} {n : Nat} {xs : List Value} (h : w.ownsRow base e size v n xs) (hk : ∀ b, v.ownBlock = some b → w'.heap[b]? = w.heap[b]?) : w'.ownsRow base e size v n xs := by
  obtain ⟨h1, h2⟩ := h
  refine ⟨h1, ?_⟩
  rcases h2 with h2 | ⟨g, cap, cur, rfl, hg, hh, r⟩
  · exact Or.inl h2
  · exact Or.inr ⟨g, cap, cur, rfl, hg, by rw [hk g rfl]; exact hh, r⟩

theorem prow_mono {w : World} {base base' : Nat} {e : TypeId} {size : Nat} {v : Value} {n : Nat} {xs : List Value} (h : w.ownsRow base e size v n xs) (hb : base' ≤ base) : w.ownsRow base' e size v n xs := by
  have hlt := h.lt
  obtain ⟨h1, h2⟩ := h
  refine ⟨h1, ?_⟩
  rcases h2 with h2 | ⟨g, cap, cur, rfl, hg, hh, r⟩
  · exact Or.inl h2
  · exact Or.inr ⟨g, cap, cur, rfl, Nat.le_trans hb (hlt g rfl).1, hh, r⟩

theorem prow_below {w w' : World} {base : Nat} {e : TypeId} {size : Nat} {v : Value} {n : Nat} {xs : List Value} (h : w.ownsRow base e size v n xs) {B : Nat} (hb : Below B w w') (hB : w.heap.size ≤ B) : w'.ownsRow base e size v n xs :=
  prow_keep h fun b hbk => hb.block b (by have := (h.lt b hbk).2; omega)

/-- A row with something in it lies in a block. -/
theorem prow_some {w : World} {base : Nat} {e : TypeId} {size : Nat} {v : Value} {n : Nat} {xs : List Value} (h : w.ownsRow base e size v n xs) (hn : 0 < n) : ∃ g cap, v = .slice (some ⟨g, 0, none⟩) n cap ∧ base ≤ g ∧ g < w.heap.size ∧ n ≤ cap := by
  have hlt := h.lt
  rcases h.2 with ⟨rfl, rfl⟩ | ⟨g, cap, cur, rfl, hg, hh, hle, _⟩
  · omega
  · exact ⟨g, cap, rfl, hg, (hlt g rfl).2, hle⟩

/-- Three stores in another block. -/
theorem prow_low3 {w : World} {base : Nat} {e : TypeId} {size : Nat} {v : Value} {n : Nat} {xs : List Value} (h : w.ownsRow base e size v n xs) {b : Nat} (hb : b < base) (x y z : Value) : (((w.setCell ⟨b, 0, none⟩ x).setCell ⟨b, 1, none⟩ y).setCell ⟨b, 2, none⟩ z).ownsRow base e size v n xs :=
  prow_keep h fun c hc => by
    have := (h.lt c hc).1
    rw [heap_setCell_other _ _ _ _ (by simp; omega), heap_setCell_other _ _ _ _ (by simp; omega), heap_setCell_other _ _ _ _ (by simp; omega)]

theorem flatP_set {ps : List PairD} {i : Nat} {x : PairD} (h : ps[i]? = some x) (val : ByteArray) (ver : Int) : ((flatP ps).set (i * 3 + 1) (.string val)).set (i * 3 + 2) (.int .i64 ver) = flatP (ps.set i ⟨x.name, val, ver⟩) := by
  induction ps generalizing i with
  | nil => simp at h
  | cons q t ih =>
    have e : ∀ q t, flatP (q :: t) = pairCells q ++ flatP t := fun q t => by simp [flatP]
    cases i with
    | zero =>
      have : q = x := by simpa using h
      subst this
      rw [List.set_cons_zero, e, e]
      simp [pairCells]
    | succ i =>
      rw [List.set_cons_succ, e, e]
      have hl : (pairCells q).length = 3 := rfl
      have := ih (i := i) (by simpa using h)
      rw [← this]
      rw [List.set_append_right _ _ (by omega), List.set_append_right _ _ (by omega), hl, show (i + 1) * 3 + 1 - 3 = i * 3 + 1 by omega, show (i + 1) * 3 + 2 - 3 = i * 3 + 2 by omega]

/-- A pair's value and version put anew. -/
theorem prow_put {w : World} {base : Nat} {g n cap i : Nat} {ps : List PairD} {x : PairD} (h : w.ownsRow base 42 3 (.slice (some ⟨g, 0, none⟩) n cap) n (flatP ps)) (hx : ps[i]? = some x) (val : ByteArray) (ver : Int) :
    ((w.setCell ⟨g, i * 3 + 1, none⟩ (.string val)).setCell ⟨g, i * 3 + 2, none⟩ (.int .i64 ver)).ownsRow base 42 3 (.slice (some ⟨g, 0, none⟩) n cap) n (flatP (ps.set i ⟨x.name, val, ver⟩)) := by
  have h1 := (h.stored (i * 3 + 1) (.string val)).1
  have h2 := (h1.stored (i * 3 + 2) (.int .i64 ver)).1
  rwa [flatP_set hx] at h2

theorem prow_cells {w : World} {base : Nat} {g n cap i : Nat} {ps : List PairD} {x : PairD} (h : w.ownsRow base 42 3 (.slice (some ⟨g, 0, none⟩) n cap) n (flatP ps)) (hx : ps[i]? = some x) (hn : n = ps.length) :
    w.cell? ⟨g, i * 3, none⟩ = some (.string x.name) ∧ w.cell? ⟨g, i * 3 + 1, none⟩ = some (.string x.value) ∧ w.cell? ⟨g, i * 3 + 2, none⟩ = some (.int .i64 x.version) ∧ ∀ j, w.frozen? ⟨g, j, none⟩ = false := by
  have hi : i < ps.length := (List.getElem?_eq_some_iff.1 hx).1
  have key : ∀ j, j < 3 → w.cell? ⟨g, i * 3 + j, none⟩ = (pairCells x)[j]? := fun j hj => by
    rw [h.cellAt (i * 3 + j) (by omega), flatP_at hx j hj]
  exact ⟨by simpa [pairCells] using key 0 (by omega), by simpa [pairCells] using key 1 (by omega), by simpa [pairCells] using key 2 (by omega), fun j => h.frozenAt j⟩

end Go.Proofs.Ytkjahjknmfjmkag
