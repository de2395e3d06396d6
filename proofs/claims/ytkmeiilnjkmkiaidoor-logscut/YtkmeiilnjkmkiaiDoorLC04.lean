/- A block's cells, read, and kept behind callees. It names no program; Logs in memory: what a value reads as; what is asked of package log (joined by program) -/
import Derived.Test.YtkmeiilnjkmkiaiDoorLC03
import Derived.Test.YtkmeiilnjkmkiaiDoorLC02
namespace Go.Proofs.YtkmeiilnjkmkiaiDoor

open Go.RowKit

/-- A block's cells, read. -/
theorem cells_of {w : World} {g : Nat} {cs : Array Value} {t : TypeId} (h : w.heap[g]? = some (.cells cs t (0, 0))) (j : Nat) : w.cell? ⟨g, j, none⟩ = cs[j]? := cell_of_row w g j _ _ _ h

/-- Behind a callee that left all that lay. -/
theorem behind {w W w2 : World} {p : Nat} {o1 : Obj} (hp : w.heap[p]? = some o1) (hW : Below w.heap.size w W) (hb : Below W.heap.size W w2) : w2.heap[p]? = some o1 := by
  have hl := (Array.getElem?_eq_some_iff.1 hp).1
  rw [hb.block p (by have := hW.size; omega), hW.block p hl, hp]

theorem two_newB {w w2 : World} {A R : Obj} (hb : Below (w.heap.size + 2) ((w.alloc A).alloc R) w2) : w2.heap[w.heap.size + 1]? = some R ∧ w2.heap[w.heap.size]? = some A := by
  have h1 := heap_alloc_new (w.alloc A) R
  rw [World.size_alloc] at h1
  have h2 : ((w.alloc A).alloc R).heap[w.heap.size]? = some A := by
    rw [Below.heap_alloc _ _ _ (by simp)]
    exact heap_alloc_new w A
  exact ⟨(hb.block _ (by omega)).trans h1, (hb.block _ (by omega)).trans h2⟩

theorem two_cells {w : World} {p : Nat} {x0 x1 : Value} {t : TypeId} (h : w.heap[p]? = some (.cells #[x0, x1] t (0, 0))) : w.cell? ⟨p, 0, none⟩ = some x0 ∧ w.cell? ⟨p, 1, none⟩ = some x1 ∧ p < w.heap.size :=
  ⟨cells_of h 0, cells_of h 1, (Array.getElem?_eq_some_iff.1 h).1⟩

end Go.Proofs.YtkmeiilnjkmkiaiDoor

namespace Go.Proofs.YtkmeiilnjkmkiaiDoor

open Go.RowKit

/-- The value v reads in w as the log l. -/
def LogR (w : World) (B : Nat) (v : Value) (l : LogD) : Prop := ∃ ev, v = .agg #[.int .i64 l.base, ev] ∧ TextsR w B ev l.ents

theorem LogR.below {w w' : World} {B : Nat} {v : Value} {l : LogD} (h : LogR w B v l) {B' : Nat} (hb : Below B' w w') (hB : B ≤ B') : LogR w' B v l := by
  obtain ⟨ev, rfl, h1⟩ := h
  exact ⟨ev, rfl, h1.below hb hB⟩

theorem LogR.shape {w : World} {B : Nat} {v : Value} {l : LogD} (h : LogR w B v l) : ∃ eo ec, v = .agg #[.int .i64 l.base, .slice eo l.ents.length ec] ∧ TextsR w B (.slice eo l.ents.length ec) l.ents := by
  obtain ⟨ev, rfl, h1⟩ := h
  obtain ⟨eo, ec, rfl⟩ := h1.slice
  exact ⟨eo, ec, rfl, h1⟩

theorem LogR.part {w : World} {B : Nat} {b : Int} {ev : Value} {ts : List ByteArray} (h : LogR w B (.agg #[.int .i64 b, ev]) ⟨b, ts⟩) : TextsR w B ev ts := by
  obtain ⟨ev', e, h1⟩ := h
  simp only [Value.agg.injEq, Array.mk.injEq, List.cons.injEq, true_and, and_true] at e
  subst e
  exact h1

theorem TextsR.cap {w : World} {B : Nat} {eo : Option Addr} {n ec : Nat} {ts : List ByteArray} (h : TextsR w B (.slice eo n ec) ts) : n ≤ ec := by
  obtain ⟨ao, cap, e, h1, -⟩ := h
  simp only [Value.slice.injEq] at e
  obtain ⟨rfl, rfl, rfl⟩ := e
  exact h1

theorem LogR.nil (w : World) (B : Nat) : LogR w B (.agg #[.int .i64 0, .slice none 0 0]) ⟨0, []⟩ := ⟨_, rfl, TextsR.nil _ _⟩

/-- The front of texts. -/
theorem TextsR.front {w : World} {B : Nat} {ao : Option Addr} {n cap : Nat} {ts : List ByteArray} (h : TextsR w B (.slice ao n cap) ts) {k : Nat} (hk : k ≤ ts.length) : TextsR w B (.slice ao k cap) (ts.take k) := by
  obtain ⟨ao', cap', e, h1, h2, h3, h4⟩ := h
  simp only [Value.slice.injEq] at e
  obtain ⟨rfl, rfl, rfl⟩ := e
  have hl : (ts.take k).length = k := by rw [List.length_take]; omega
  refine ⟨ao, cap, by rw [hl], by omega, by omega, h3, fun hp => ?_⟩
  obtain ⟨b, off, rfl, hb, hc⟩ := h4 (by omega)
  refine ⟨b, off, rfl, hb, fun i x hx => hc i x ?_⟩
  have hi : i < k := by have := (List.getElem?_eq_some_iff.1 hx).1; omega
  rwa [List.getElem?_take_of_lt hi] at hx

/-- The tail of texts. -/
theorem TextsR.tail {w : World} {B : Nat} {ao : Option Addr} {n cap : Nat} {ts : List ByteArray} (h : TextsR w B (.slice ao n cap) ts) {k : Nat} (hk : k ≤ ts.length) :
    (cap = k → TextsR w B (.slice ao (ts.length - k) 0) (ts.drop k)) ∧ (¬ cap = k → TextsR w B (.slice (ao.map (fun x => x.add k)) (ts.length - k) (cap - k)) (ts.drop k)) := by
  obtain ⟨ao', cap', e, h1, h2, h3, h4⟩ := h
  simp only [Value.slice.injEq] at e
  obtain ⟨rfl, rfl, rfl⟩ := e
  have hl : (ts.drop k).length = ts.length - k := List.length_drop
  refine ⟨fun hc => ?_, fun hc => ?_⟩
  · exact ⟨ao, 0, by rw [hl], by omega, by omega, fun _ => rfl, fun hp => by omega⟩
  · refine ⟨_, _, by rw [hl], by omega, by omega, fun hn => ?_, fun hp => ?_⟩
    · cases ao with
      | none => have := h3 rfl; omega
      | some a => cases hn
    · obtain ⟨b, off, rfl, hb, hcs⟩ := h4 (by omega)
      refine ⟨b, off + k, ?_, hb, fun i x hx => ?_⟩
      · simp only [Option.map_some, gadd]
      · rw [List.getElem?_drop] at hx
        have := hcs (k + i) x hx
        rwa [show off + (k + i) = off + k + i by omega] at this

/-- The texts of a value fit. -/
theorem TextsR.sizes {w : World} {B : Nat} {v : Value} {ts : List ByteArray} (h : TextsR w B v ts) : ∀ t ∈ ts, t.size ≤ 140737488351232 := by
  intro t ht
  obtain ⟨i, hi⟩ := List.mem_iff_getElem?.1 ht
  obtain ⟨ao, cap, rfl, h1, h2, h3, h4⟩ := h
  obtain ⟨b, off, rfl, hb, hc⟩ := h4 (by have := (List.getElem?_eq_some_iff.1 hi).1; omega)
  exact (hc i t hi).2

/-- What is asked of package log. -/
structure LogC : Prop where
  put : ∀ (v : Value) (l : LogD) (k : Int) (mv : Value) (more : List ByteArray) (w : World) (B : Nat), LogR w B v l → TextsR w B mv more → B ≤ w.heap.size → (-9223372036854775808 ≤ k ∧ k ≤ 9223372036854775807) →
    Calls Tryd.prog 7 #[v, .int .i64 k, mv] w fun e w' => ∃ v', e = .returned (.tuple #[v', .int .i64 (putE l k more)]) ∧ LogR w' w'.heap.size v' (putL l k more) ∧ Below w.heap.size w w'
  last : ∀ (v : Value) (l : LogD) (w : World) (B : Nat), LogR w B v l → B ≤ w.heap.size → logE l = 0 →
    Calls Tryd.prog 11 #[v] w fun e w' => e = .returned (.int .i64 (lastL l)) ∧ Below w.heap.size w w'

/-- The same, of Cut and At. -/
structure LogXC : Prop where
  cut : ∀ (v : Value) (l : LogD) (i : Int) (w : World) (B : Nat), LogR w B v l → B ≤ w.heap.size → (-9223372036854775808 ≤ i ∧ i ≤ 9223372036854775807) →
    Calls Tryd.prog 12 #[v, .int .i64 i] w fun e w' => ∃ v', e = .returned (.tuple #[v', .int .i64 (cutE l i)]) ∧ LogR w' w'.heap.size v' (cutL l i) ∧ Below w.heap.size w w'
  at_ : ∀ (v : Value) (l : LogD) (i : Int) (w : World) (B : Nat), LogR w B v l → B ≤ w.heap.size → (-9223372036854775808 ≤ i ∧ i ≤ 9223372036854775807) →
    Calls Tryd.prog 13 #[v, .int .i64 i] w fun e w' => e = .returned (.tuple #[.string (entL l i), .int .i64 (entE l i)]) ∧ Below w.heap.size w w'

end Go.Proofs.YtkmeiilnjkmkiaiDoor
