/- Logs in memory: what a value reads as; what is asked of package log. -/
import Derived.Test.YtkmeiilnjkmkiahLogMath
import Derived.Test.YtkmeiilnjkmkiahTextMem
import Derived.Test.YtkmeiilnjkmkiahBoxMem
namespace Go.Proofs.Ytkmeiilnjkmkiah
open Go.RowKit

/-- The value v reads in w as the log l. -/
def LogR (w : World) (B : Nat) (v : Value) (l : LogD) : Prop := ∃ ev, v = .agg #[.int .i64 l.base, ev] ∧ TextsR w B ev l.ents

theorem LogR.below {w w' : World} {B : Nat} {v : Value} {l : LogD} (h : LogR w B v l) {B' : Nat} (hb : Below B' w w') (hB : B ≤ B') : LogR w' B v l := by
  obtain ⟨ev, rfl, h1⟩ := h
  exact ⟨ev, rfl, h1.below hb hB⟩

theorem LogR.shape {w : World} {B : Nat} {v : Value} {l : LogD} (h : LogR w B v l) : ∃ eo ec, v = .agg #[.int .i64 l.base, .slice eo l.ents.length ec] ∧ TextsR w B (.slice eo l.ents.length ec) l.ents := by
  obtain ⟨ev, rfl, h1⟩ := h
  obtain ⟨eo, ec, rfl⟩ := h1.slice
  exact ⟨eo, ec, rfl, h1⟩

theorem LogR.part {w : World} {B : Nat} {b : Int} {ev : Value} {ts : List ByteArray} (h : LogR w B (.agg #[.int .i64 b, ev]) ⟨b, ts⟩) : TextsR w B ev ts := by
  obtain ⟨ev', e, h1⟩ := h
  simp only [Value.agg.injEq, Array.mk.injEq, List.cons.injEq, true_and, and_true] at e
  subst e
  exact h1

theorem TextsR.cap {w : World} {B : Nat} {eo : Option Addr} {n ec : Nat} {ts : List ByteArray} (h : TextsR w B (.slice eo n ec) ts) : n ≤ ec := by
  obtain ⟨ao, cap, e, h1, -⟩ := h
  simp only [Value.slice.injEq] at e
  obtain ⟨rfl, rfl, rfl⟩ := e
  exact h1

theorem LogR.nil (w : World) (B : Nat) : LogR w B (.agg #[.int .i64 0, .slice none 0 0]) ⟨0, []⟩ := ⟨_, rfl, TextsR.nil _ _⟩

/-- The front of texts. -/
theorem TextsR.front {w : World} {B : Nat} {ao : Option Addr} {n cap : Nat} {ts : List ByteArray} (h : TextsR w B (.slice ao n cap) ts) {k : Nat} (hk : k ≤ ts.length) : TextsR w B (.slice ao k cap) (ts.take k) := by
  obtain ⟨ao', cap', e, h1, h2, h3, h4⟩ := h
  simp only [Value.slice.injEq] at e
  obtain ⟨rfl, rfl, rfl⟩ := e
  have hl : (ts.take k).length = k := by rw [List.length_take]; omega
  refine ⟨ao, cap, by rw [hl], by omega, by omega, h3, fun hp => ?_⟩
  obtain ⟨b, off, rfl, hb, hc⟩ := h4 (by omega)
  refine ⟨b, off, rfl, hb, fun i x hx => hc i x ?_⟩
  have hi : i < k := by have := (List.getElem?_eq_some_iff.1 hx).1; omega
  rwa [List.getElem?_take_of_lt hi] at hx

/-- The tail of texts. -/
theorem TextsR.tail {w : World} {B : Nat} {ao : Option Addr} {n cap : Nat} {ts : List ByteArray} (h : TextsR w B (.slice ao n cap) ts) {k : Nat} (hk : k ≤ ts.length) :
    (cap = k → TextsR w B (.slice ao (ts.length - k) 0) (ts.drop k)) ∧ (¬ cap = k → TextsR w B (.slice (ao.map (fun x => x.add k)) (ts.length - k) (cap - k)) (ts.drop k)) := by
  obtain ⟨ao', cap', e, h1, h2, h3, h4⟩ := h
  simp only [Value.slice.injEq] at e
  obtain ⟨rfl, rfl, rfl⟩ := e
  have hl : (ts.drop k).length = ts.length - k := List.length_drop
  refine ⟨fun hc => ?_, fun hc => ?_⟩
  · exact ⟨ao, 0, by rw [hl], by omega, by omega, fun _ => rfl, fun hp => by omega⟩
  · refine ⟨_, _, by rw [hl], by omega, by omega, fun hn => ?_, fun hp => ?_⟩
    · cases ao with
      | none => have := h3 rfl; omega
      | some a => cases hn
    · obtain ⟨b, off, rfl, hb, hcs⟩ := h4 (by omega)
      refine ⟨b, off + k, ?_, hb, fun i x hx => ?_⟩
      · simp only [Option.map_some, gadd]
      · rw [List.getElem?_drop] at hx
        have := hcs (k + i) x hx
        rwa [show off + (k + i) = off + k + i by omega] at this

/-- The texts of a value fit. -/
theorem TextsR.sizes {w : World} {B : Nat} {v : Value} {ts : List ByteArray} (h : TextsR w B v ts) : ∀ t ∈ ts, t.size ≤ 140737488351232 := by
  intro t ht
  obtain ⟨i, hi⟩ := List.mem_iff_getElem?.1 ht
  obtain ⟨ao, cap, rfl, h1, h2, h3, h4⟩ := h
  obtain ⟨b, off, rfl, hb, hc⟩ := h4 (by have := (List.getElem?_eq_some_iff.1 hi).1; omega)
  exact (hc i t hi).2

/-- What is asked of package log. -/
structure LogC : Prop where
  put : ∀ (v : Value) (l : LogD) (k : Int) (mv : Value) (more : List ByteArray) (w : World) (B : Nat), LogR w B v l → TextsR w B mv more → B ≤ w.heap.size → (-9223372036854775808 ≤ k ∧ k ≤ 9223372036854775807) →
    Calls Try.prog 17 #[v, .int .i64 k, mv] w fun e w' => ∃ v', e = .returned (.tuple #[v', .int .i64 (putE l k more)]) ∧ LogR w' w'.heap.size v' (putL l k more) ∧ Below w.heap.size w w'
  last : ∀ (v : Value) (l : LogD) (w : World) (B : Nat), LogR w B v l → B ≤ w.heap.size → logE l = 0 →
    Calls Try.prog 12 #[v] w fun e w' => e = .returned (.int .i64 (lastL l)) ∧ Below w.heap.size w w'

end Go.Proofs.Ytkmeiilnjkmkiah