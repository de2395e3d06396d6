/- Texts as they lie in memory: what a value reads as; a row of texts of the call's own; A block's cells, read, and kept behind callees. It names no program (joined by program) -/
import Derived.Test.YtbmfahgekcnkaaiRows
import Derived.Test.YtbmfahgekcnkaaiRC01
namespace Go.Proofs.Ytbmfahgekcnkaai

open Go.RowKit

/-- The value v reads in w as the texts ts; its memory lies below block B. -/
def TextsR (w : World) (B : Nat) (v : Value) (ts : List ByteArray) : Prop :=
  ∃ ao cap, v = .slice ao ts.length cap ∧ ts.length ≤ cap ∧ ts.length * 16 ≤ 140737488351232 ∧ (ao = none → cap = 0) ∧
    (0 < ts.length → ∃ b off, ao = some ⟨b, off, none⟩ ∧ b < B ∧ ∀ (i : Nat) (x : ByteArray), ts[i]? = some x → w.cell? ⟨b, off + i, none⟩ = some (.string x) ∧ x.size ≤ 140737488351232)

theorem TextsR.below {w w' : World} {B : Nat} {v : Value} {ts : List ByteArray} (h : TextsR w B v ts) {B' : Nat} (hb : Below B' w w') (hB : B ≤ B') : TextsR w' B v ts := by
  obtain ⟨ao, cap, rfl, h1, h2, h3, h4⟩ := h
  refine ⟨ao, cap, rfl, h1, h2, h3, fun hp => ?_⟩
  obtain ⟨b, off, rfl, hlt, hc⟩ := h4 hp
  exact ⟨b, off, rfl, hlt, fun i x hx => ⟨(hb.cell (p := ⟨b, off + i, none⟩) (by simp; omega)).trans (hc i x hx).1, (hc i x hx).2⟩⟩

theorem TextsR.mono {w : World} {B B' : Nat} {v : Value} {ts : List ByteArray} (h : TextsR w B v ts) (hB : B ≤ B') : TextsR w B' v ts := by
  obtain ⟨ao, cap, rfl, h1, h2, h3, h4⟩ := h
  refine ⟨ao, cap, rfl, h1, h2, h3, fun hp => ?_⟩
  obtain ⟨b, off, rfl, hlt, hc⟩ := h4 hp
  exact ⟨b, off, rfl, by omega, hc⟩

theorem TextsR.len {w : World} {B : Nat} {v : Value} {ts : List ByteArray} (h : TextsR w B v ts) : ts.length * 16 ≤ 140737488351232 := by
  obtain ⟨_, _, _, _, h2, _⟩ := h
  exact h2

theorem TextsR.slice {w : World} {B : Nat} {v : Value} {ts : List ByteArray} (h : TextsR w B v ts) : ∃ ao cap, v = .slice ao ts.length cap := by
  obtain ⟨ao, cap, rfl, -⟩ := h
  exact ⟨ao, cap, rfl⟩

theorem TextsR.nil (w : World) (B : Nat) : TextsR w B (.slice none 0 0) [] := ⟨none, 0, rfl, Nat.le_refl _, by simp, fun _ => rfl, fun h => absurd h (by simp)⟩

/-- The cells of texts. -/
def textCells (ts : List ByteArray) : List Value := ts.map Value.string

theorem textCells_one (ts : List ByteArray) : ∀ v ∈ textCells ts, v.oneCell' = true := by
  intro v hv
  obtain ⟨t, -, rfl⟩ := List.mem_map.1 hv
  rfl

/-- Texts that are owned read as they are. -/
theorem texts_reads {w : World} {base B : Nat} {v : Value} {ts : List ByteArray} (h : w.ownsRow base 9 1 v ts.length (textCells ts)) (hm : ∀ t ∈ ts, t.size ≤ 140737488351232) (hl : ts.length * 16 ≤ 140737488351232) (hB : w.heap.size ≤ B) : TextsR w B v ts := by
  rcases h.2 with ⟨rfl, hn⟩ | ⟨g, cap, cur, rfl, _, hg, hle, hcm, hcs, htake⟩
  · have : ts = [] := List.eq_nil_of_length_eq_zero hn
    subst this
    exact TextsR.nil _ _
  · refine ⟨some ⟨g, 0, none⟩, cap, rfl, hle, hl, (by intro h; cases h), fun _ => ⟨g, 0, rfl, ?_, fun i x hx => ⟨?_, hm x (List.mem_of_getElem? hx)⟩⟩⟩
    · have := (h.lt g rfl).2; omega
    · have hi : i < ts.length := (List.getElem?_eq_some_iff.1 hx).1
      rw [Nat.zero_add, h.cellAt i (by omega)]
      simp [textCells, hx]

theorem Try.infoText : (Try.prog.info? 9).map (fun i => (i.zero, i.size, i.bytes)) = some (some (.string ⟨#[]⟩), 1, 16) := by kernel_rfl

end Go.Proofs.Ytbmfahgekcnkaai

namespace Go.Proofs.Ytbmfahgekcnkaai

open Go.RowKit

/-- A block's cells, read. -/
theorem cells_of {w : World} {g : Nat} {cs : Array Value} {t : TypeId} (h : w.heap[g]? = some (.cells cs t (0, 0))) (j : Nat) : w.cell? ⟨g, j, none⟩ = cs[j]? := cell_of_row w g j _ _ _ h

theorem heap_set {w : World} {p j : Nat} {cs : Array Value} {t : TypeId} (h : w.heap[p]? = some (.cells cs t (0, 0))) (u : Value) : (w.setCell ⟨p, j, none⟩ u).heap[p]? = some (.cells (cs.setIfInBounds j u) t (0, 0)) := by
  simp only [World.setCell]
  rw [Array.getElem?_modify, h]
  simp

/-- Behind a callee that left all that lay. -/
theorem behind {w W w2 : World} {p : Nat} {o1 : Obj} (hp : w.heap[p]? = some o1) (hW : Below w.heap.size w W) (hb : Below W.heap.size W w2) : w2.heap[p]? = some o1 := by
  have hl := (Array.getElem?_eq_some_iff.1 hp).1
  rw [hb.block p (by have := hW.size; omega), hW.block p hl, hp]

theorem two_newB {w w2 : World} {A R : Obj} (hb : Below (w.heap.size + 2) ((w.alloc A).alloc R) w2) : w2.heap[w.heap.size + 1]? = some R ∧ w2.heap[w.heap.size]? = some A := by
  have h1 := heap_alloc_new (w.alloc A) R
  rw [World.size_alloc] at h1
  have h2 : ((w.alloc A).alloc R).heap[w.heap.size]? = some A := by
    rw [Below.heap_alloc _ _ _ (by simp)]
    exact heap_alloc_new w A
  exact ⟨(hb.block _ (by omega)).trans h1, (hb.block _ (by omega)).trans h2⟩

end Go.Proofs.Ytbmfahgekcnkaai
