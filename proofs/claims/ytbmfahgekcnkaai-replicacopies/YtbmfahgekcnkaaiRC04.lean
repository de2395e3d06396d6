/- In the place of KTag.lean: nothing is asked of a row's block (for laws that open such rows as arguments); Pairs as they lie in memory: what a value reads as; a row of pairs that a call owns (joined by program) -/
import Derived.Test.YtbmfahgekcnkaaiRows
import Derived.WalkKit
import Derived.ProofKit
import Derived.WalkLawsBesides
import Derived.Laws.Rows
import Derived.Below
import Derived.Test.YtbmfahgekcnkaaiRC01
namespace Go.Proofs.Ytbmfahgekcnkaai

open Go.RowKit

def TagB (_t : TypeId) (_w : World) (_b : Nat) : Prop := True

theorem TagB.block {t : TypeId} {w w' : World} {b : Nat} (_h : TagB t w b) (_e : w'.heap[b]? = w.heap[b]?) : TagB t w' b := trivial

theorem TagB.of {t : TypeId} {w : World} {b : Nat} {cs : Array Value} {fr : Nat × Nat} (_h : w.heap[b]? = some (.cells cs t fr)) : TagB t w b := trivial

theorem TagB.row {t : TypeId} {w : World} {base m g n c n' : Nat} {xs : List Value} (_h : w.ownsRow base t m (.slice (some ⟨g, 0, none⟩) n c) n' xs) : TagB t w g := trivial

end Go.Proofs.Ytbmfahgekcnkaai

namespace Go.Proofs.Ytbmfahgekcnkaai

open Go.RowKit

theorem phid {p : Prop} (h : p) : Hid p := h

/-- A pair, as plain data. -/
structure PairD where
  name : ByteArray
  value : ByteArray
  version : Int

/-- The cells of a pair. -/
def pairCells (x : PairD) : List Value := [.string x.name, .string x.value, .int .i64 x.version]

def flatP (ps : List PairD) : List Value := ps.flatMap pairCells

/-- The pair x lies at ⟨b, o, none⟩. -/
def PairAt (w : World) (b o : Nat) (x : PairD) : Prop :=
  w.cell? ⟨b, o, none⟩ = some (.string x.name) ∧ w.cell? ⟨b, o + 1, none⟩ = some (.string x.value) ∧ w.cell? ⟨b, o + 2, none⟩ = some (.int .i64 x.version) ∧
    x.name.size ≤ 140737488351232 ∧ x.value.size ≤ 140737488351232 ∧ TagB 78 w b

/-- The value v reads in w as the pairs ps; all their memory lies below block B. -/
def PairsR (w : World) (B : Nat) (v : Value) (ps : List PairD) : Prop :=
  ∃ ao cap, v = .slice ao ps.length cap ∧ ps.length ≤ cap ∧ ps.length * 40 ≤ 140737488351232 ∧ (ao = none → cap = 0) ∧
    (0 < ps.length → ∃ b off, ao = some ⟨b, off, none⟩ ∧ b < B ∧ ∀ (i : Nat) (x : PairD), ps[i]? = some x → PairAt w b (off + i * 3) x)

theorem PairAt.below {w w' : World} {B b o : Nat} {x : PairD} (h : PairAt w b o x) (hlt : b < B) (hb : Below B w w') : PairAt w' b o x := by
  obtain ⟨c0, c1, c2, hs⟩ := h
  have key : ∀ o', w'.cell? ⟨b, o', none⟩ = w.cell? ⟨b, o', none⟩ := fun o' => hb.cell (p := ⟨b, o', none⟩) hlt
  exact ⟨(key _).trans c0, (key _).trans c1, (key _).trans c2, hs.1, hs.2.1, hs.2.2.block (hb.block b hlt)⟩

theorem PairsR.below {w w' : World} {B : Nat} {v : Value} {ps : List PairD} (h : PairsR w B v ps) {B' : Nat} (hb : Below B' w w') (hB : B ≤ B') : PairsR w' B v ps := by
  obtain ⟨ao, cap, rfl, h1, h2, h3, h4⟩ := h
  refine ⟨ao, cap, rfl, h1, h2, h3, fun hp => ?_⟩
  obtain ⟨b, off, rfl, hlt, hc⟩ := h4 hp
  exact ⟨b, off, rfl, hlt, fun i x hx => (hc i x hx).below (by omega) hb⟩

theorem PairsR.mono {w : World} {B B' : Nat} {v : Value} {ps : List PairD} (h : PairsR w B v ps) (hB : B ≤ B') : PairsR w B' v ps := by
  obtain ⟨ao, cap, rfl, h1, h2, h3, h4⟩ := h
  refine ⟨ao, cap, rfl, h1, h2, h3, fun hp => ?_⟩
  obtain ⟨b, off, rfl, hlt, hc⟩ := h4 hp
  exact ⟨b, off, rfl, by omega, hc⟩

theorem PairsR.len {w : World} {B : Nat} {v : Value} {ps : List PairD} (h : PairsR w B v ps) : ps.length * 40 ≤ 140737488351232 := by
  obtain ⟨_, _, _, _, h2, _⟩ := h
  exact h2

theorem PairsR.nil (w : World) (B : Nat) : PairsR w B (.slice none 0 0) [] := ⟨none, 0, rfl, Nat.le_refl _, by simp, fun _ => rfl, fun h => absurd h (by simp)⟩

/-- Texts that are not too long for any machine. -/
def Modest (ps : List PairD) : Prop := ∀ x ∈ ps, x.name.size ≤ 140737488351232 ∧ x.value.size ≤ 140737488351232

theorem PairsR.modest {w : World} {B : Nat} {v : Value} {ps : List PairD} (h : PairsR w B v ps) : Modest ps := by
  obtain ⟨ao, cap, rfl, h1, h2, h3, h4⟩ := h
  intro x hx
  obtain ⟨i, hi⟩ := List.mem_iff_getElem?.1 hx
  obtain ⟨b, off, rfl, hlt, hc⟩ := h4 (by have := (List.getElem?_eq_some_iff.1 hi).1; omega)
  exact ⟨(hc i x hi).2.2.2.1, (hc i x hi).2.2.2.2.1⟩

theorem flatP_length (ps : List PairD) : (flatP ps).length = ps.length * 3 := by
  induction ps with
  | nil => rfl
  | cons r t ih => simp only [flatP, List.flatMap_cons, List.length_append] at ih ⊢; simp only [pairCells, List.length_cons, List.length_nil, ih]; omega

theorem flatP_snoc (a : List PairD) (x : PairD) : flatP (a ++ [x]) = flatP a ++ pairCells x := by simp [flatP]

theorem flatP_at {ps : List PairD} {i : Nat} {r : PairD} (h : ps[i]? = some r) (j : Nat) (hj : j < 3) : (flatP ps)[i * 3 + j]? = (pairCells r)[j]? := by
  induction ps generalizing i with
  | nil => simp at h
  | cons q t ih =>
    have e : flatP (q :: t) = pairCells q ++ flatP t := by simp [flatP]
    have hl : (pairCells q).length = 3 := rfl
    rw [e]
    cases i with
    | zero =>
      have : q = r := by simpa using h
      subst this
      rw [Nat.zero_mul, Nat.zero_add, List.getElem?_append_left (by omega)]
    | succ i =>
      rw [List.getElem?_append_right (by omega), hl, show (i + 1) * 3 + j - 3 = i * 3 + j by omega]
      exact ih (by simpa using h)

/-- Pairs that are owned read as they are. -/
theorem pairs_reads {w : World} {base B : Nat} {v : Value} {ps : List PairD} (h : w.ownsRow base 78 3 v ps.length (flatP ps)) (hm : Modest ps) (hl : ps.length * 40 ≤ 140737488351232) (hB : w.heap.size ≤ B) : PairsR w B v ps := by
  rcases h.2 with ⟨rfl, hn⟩ | ⟨g, cap, cur, rfl, _, hg, hle, hcm, hcs, htake⟩
  · have : ps = [] := List.eq_nil_of_length_eq_zero hn
    subst this
    exact PairsR.nil _ _
  · refine ⟨some ⟨g, 0, none⟩, cap, rfl, hle, hl, (by intro h; cases h), fun _ => ⟨g, 0, rfl, ?_, fun i x hx => ?_⟩⟩
    · have := (h.lt g rfl).2; omega
    · have hi : i < ps.length := (List.getElem?_eq_some_iff.1 hx).1
      have key : ∀ j, j < 3 → w.cell? ⟨g, 0 + i * 3 + j, none⟩ = (pairCells x)[j]? := fun j hj => by
        rw [Nat.zero_add, h.cellAt (i * 3 + j) (by omega), flatP_at hx j hj]
      exact ⟨by simpa [pairCells] using key 0 (by omega), by simpa [pairCells] using key 1 (by omega), by simpa [pairCells] using key 2 (by omega), (hm x (List.mem_of_getElem? hx)).1, (hm x (List.mem_of_getElem? hx)).2, TagB.of hg⟩

theorem Try.infoPair : (Try.prog.info? 78).map (fun i => (i.zero, i.size, i.bytes)) = some (some (.agg #[.string ⟨#[]⟩, .string ⟨#[]⟩, .int .i64 0]), 3, 40) := by kernel_rfl

/-- The cells of a value's row, as a copy or an append wants them. -/
theorem PairsR.cells {w : World} {b off : Nat} {ps : List PairD} (hc : ∀ (i : Nat) (x : PairD), ps[i]? = some x → PairAt w b (off + i * 3) x) : ∀ (j : Nat) (u : Value), (flatP ps)[j]? = some u → w.cell? ⟨b, off + j, none⟩ = some u := by
  intro j u hj
  have hjl : j < ps.length * 3 := by rw [← flatP_length]; exact (List.getElem?_eq_some_iff.1 hj).1
  obtain ⟨x, hx⟩ : ∃ x, ps[j / 3]? = some x := ⟨_, List.getElem?_eq_getElem (by omega)⟩
  obtain ⟨c0, c1, c2, -⟩ := hc _ x hx
  have e := flatP_at hx (j % 3) (by omega)
  rw [show j / 3 * 3 + j % 3 = j by omega, hj] at e
  rcases (by omega : j % 3 = 0 ∨ j % 3 = 1 ∨ j % 3 = 2) with h | h | h
  · rw [h] at e
    rw [show off + j = off + j / 3 * 3 by omega, c0, e]; rfl
  · rw [h] at e
    rw [show off + j = off + j / 3 * 3 + 1 by omega, c1, e]; rfl
  · rw [h] at e
    rw [show off + j = off + j / 3 * 3 + 2 by omega, c2, e]; rfl

end Go.Proofs.Ytbmfahgekcnkaai
