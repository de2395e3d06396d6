/- Texts as they lie in memory: what a value reads as; a row of texts of the call's own. -/
import Derived.Test.YtkmeiilnjkmkiahRows
import Derived.Test.YtkmeiilnjkmkiahRowG
namespace Go.Proofs.Ytkmeiilnjkmkiah
open Go.RowKit

/-- The value v reads in w as the texts ts; its memory lies below block B. -/
def TextsR (w : World) (B : Nat) (v : Value) (ts : List ByteArray) : Prop :=
  ∃ ao cap, v = .slice ao ts.length cap ∧ ts.length ≤ cap ∧ ts.length * 16 ≤ 140737488351232 ∧ (ao = none → cap = 0) ∧
    (0 < ts.length → ∃ b off, ao = some ⟨b, off, none⟩ ∧ b < B ∧ ∀ (i : Nat) (x : ByteArray), ts[i]? = some x → w.cell? ⟨b, off + i, none⟩ = some (.string x) ∧ x.size ≤ 140737488351232)

theorem TextsR.below {w w' : World} {B : Nat} {v : Value} {ts : List ByteArray} (h : TextsR w B v ts) {B' : Nat} (hb : Below B' w w') (hB : B ≤ B') : TextsR w' B v ts := by
  obtain ⟨ao, cap, rfl, h1, h2, h3, h4⟩ := h
  refine ⟨ao, cap, rfl, h1, h2, h3, fun hp => ?_⟩
  obtain ⟨b, off, rfl, hlt, hc⟩ := h4 hp
  exact ⟨b, off, rfl, hlt, fun i x hx => ⟨(hb.cell (p := ⟨b, off + i, none⟩) (by simp; omega)).trans (hc i x hx).1, (hc i x hx).2⟩⟩

theorem TextsR.mono {w : World} {B B' : Nat} {v : Value} {ts : List ByteArray} (h : TextsR w B v ts) (hB : B ≤ B') : TextsR w B' v ts := by
  obtain ⟨ao, cap, rfl, h1, h2, h3, h4⟩ := h
  refine ⟨ao, cap, rfl, h1, h2, h3, fun hp => ?_⟩
  obtain ⟨b, off, rfl, hlt, hc⟩ := h4 hp
  exact ⟨b, off, rfl, by omega, hc⟩

theorem TextsR.len {w : World} {B : Nat} {v : Value} {ts : List ByteArray} (h : TextsR w B v ts) : ts.length * 16 ≤ 140737488351232 := by
  obtain ⟨_, _, _, _, h2, _⟩ := h
  exact h2

theorem TextsR.slice {w : World} {B : Nat} {v : Value} {ts : List ByteArray} (h : TextsR w B v ts) : ∃ ao cap, v = .slice ao ts.length cap := by
  obtain ⟨ao, cap, rfl, -⟩ := h
  exact ⟨ao, cap, rfl⟩

theorem TextsR.nil (w : World) (B : Nat) : TextsR w B (.slice none 0 0) [] := ⟨none, 0, rfl, Nat.le_refl _, by simp, fun _ => rfl, fun h => absurd h (by simp)⟩

/-- The cells of texts. -/
def textCells (ts : List ByteArray) : List Value := ts.map Value.string

theorem textCells_one (ts : List ByteArray) : ∀ v ∈ textCells ts, v.oneCell' = true := by
  intro v hv
  obtain ⟨t, -, rfl⟩ := List.mem_map.1 hv
  rfl

theorem textCells_snoc (ts : List ByteArray) (t : ByteArray) : textCells (ts ++ [t]) = textCells ts ++ [.string t] := by simp [textCells]

/-- Texts that are owned read as they are. -/
theorem texts_reads {w : World} {base B : Nat} {v : Value} {ts : List ByteArray} (h : w.ownsRow base 9 1 v ts.length (textCells ts)) (hm : ∀ t ∈ ts, t.size ≤ 140737488351232) (hl : ts.length * 16 ≤ 140737488351232) (hB : w.heap.size ≤ B) : TextsR w B v ts := by
  rcases h.2 with ⟨rfl, hn⟩ | ⟨g, cap, cur, rfl, _, hg, hle, hcm, hcs, htake⟩
  · have : ts = [] := List.eq_nil_of_length_eq_zero hn
    subst this
    exact TextsR.nil _ _
  · refine ⟨some ⟨g, 0, none⟩, cap, rfl, hle, hl, (by intro h; cases h), fun _ => ⟨g, 0, rfl, ?_, fun i x hx => ⟨?_, hm x (List.mem_of_getElem? hx)⟩⟩⟩
    · have := (h.lt g rfl).2; omega
    · have hi : i < ts.length := (List.getElem?_eq_some_iff.1 hx).1
      rw [Nat.zero_add, h.cellAt i (by omega)]
      simp [textCells, hx]

theorem Try.infoText : (Try.prog.info? 9).map (fun i => (i.zero, i.size, i.bytes)) = some (some (.string ⟨#[]⟩), 1, 16) := by kernel_rfl
end Go.Proofs.Ytkmeiilnjkmkiah
