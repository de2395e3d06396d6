/- Locks as they lie in memory: what a value reads as; Pairs as they lie in memory: what a value reads as; a row of pairs that a call owns (joined by program) -/
import Derived.Test.YtpcacaohknkdlagRows
import Derived.WalkKit
import Derived.ProofKit
import Derived.WalkLawsBesides
import Derived.Deep.AppendLies
import Derived.Laws.Rows
import Derived.Below
namespace Go.Proofs.Ytpcacaohknkdlag

open Go.RowKit

theorem Hid.mk' {p : Prop} (h : p) : Hid p := h

/-- A lock, as plain data. -/
structure LockD where
  name : ByteArray
  holder : Int
  fence : Int
  line : List Int

/-- The value v reads in w as the numbers xs; its memory lies below block B. -/
def IntsR (w : World) (B : Nat) (v : Value) (xs : List Int) : Prop :=
  ∃ ao cap, v = .slice ao xs.length cap ∧ xs.length ≤ cap ∧ xs.length * 8 ≤ 140737488351232 ∧ (ao = none → cap = 0) ∧
    (0 < xs.length → ∃ b off, ao = some ⟨b, off, none⟩ ∧ b < B ∧ ∀ i x, xs[i]? = some x → w.cell? ⟨b, off + i, none⟩ = some (.int .i64 x))

/-- The lock x lies at ⟨b, o, none⟩. -/
def LockAt (w : World) (B : Nat) (b o : Nat) (x : LockD) : Prop :=
  ∃ lv, w.cell? ⟨b, o, none⟩ = some (.string x.name) ∧ w.cell? ⟨b, o + 1, none⟩ = some (.int .i64 x.holder) ∧ w.cell? ⟨b, o + 2, none⟩ = some (.int .i64 x.fence) ∧
    w.cell? ⟨b, o + 3, none⟩ = some lv ∧ IntsR w B lv x.line ∧ x.name.size ≤ 140737488351232

/-- The value v reads in w as the locks ls; all their memory lies below block B. -/
def LocksR (w : World) (B : Nat) (v : Value) (ls : List LockD) : Prop :=
  ∃ ao cap, v = .slice ao ls.length cap ∧ ls.length ≤ cap ∧ ls.length * 56 ≤ 140737488351232 ∧ (ao = none → cap = 0) ∧
    (0 < ls.length → ∃ b off, ao = some ⟨b, off, none⟩ ∧ b < B ∧ ∀ i x, ls[i]? = some x → LockAt w B b (off + i * 4) x)

theorem IntsR.below {w w' : World} {B : Nat} {v : Value} {xs : List Int} (h : IntsR w B v xs) {B' : Nat} (hb : Below B' w w') (hB : B ≤ B') : IntsR w' B v xs := by
  obtain ⟨ao, cap, rfl, h1, h2, h3, h4⟩ := h
  refine ⟨ao, cap, rfl, h1, h2, h3, fun hp => ?_⟩
  obtain ⟨b, off, rfl, hlt, hc⟩ := h4 hp
  exact ⟨b, off, rfl, hlt, fun i x hx => (hb.cell (p := ⟨b, off + i, none⟩) (by simp; omega)).trans (hc i x hx)⟩

theorem IntsR.mono {w : World} {B B' : Nat} {v : Value} {xs : List Int} (h : IntsR w B v xs) (hB : B ≤ B') : IntsR w B' v xs := by
  obtain ⟨ao, cap, rfl, h1, h2, h3, h4⟩ := h
  refine ⟨ao, cap, rfl, h1, h2, h3, fun hp => ?_⟩
  obtain ⟨b, off, rfl, hlt, hc⟩ := h4 hp
  exact ⟨b, off, rfl, by omega, hc⟩

theorem LockAt.below {w w' : World} {B b o : Nat} {x : LockD} (h : LockAt w B b o x) (hlt : b < B) {B' : Nat} (hb : Below B' w w') (hB : B ≤ B') : LockAt w' B b o x := by
  obtain ⟨lv, c0, c1, c2, c3, hl, hs⟩ := h
  have key : ∀ o', w'.cell? ⟨b, o', none⟩ = w.cell? ⟨b, o', none⟩ := fun o' => hb.cell (p := ⟨b, o', none⟩) (by simp; omega)
  exact ⟨lv, (key _).trans c0, (key _).trans c1, (key _).trans c2, (key _).trans c3, hl.below hb hB, hs⟩

theorem LockAt.mono {w : World} {B B' b o : Nat} {x : LockD} (h : LockAt w B b o x) (hB : B ≤ B') : LockAt w B' b o x := by
  obtain ⟨lv, c0, c1, c2, c3, hl, hs⟩ := h
  exact ⟨lv, c0, c1, c2, c3, hl.mono hB, hs⟩

theorem LocksR.below {w w' : World} {B : Nat} {v : Value} {ls : List LockD} (h : LocksR w B v ls) {B' : Nat} (hb : Below B' w w') (hB : B ≤ B') : LocksR w' B v ls := by
  obtain ⟨ao, cap, rfl, h1, h2, h3, h4⟩ := h
  refine ⟨ao, cap, rfl, h1, h2, h3, fun hp => ?_⟩
  obtain ⟨b, off, rfl, hlt, hc⟩ := h4 hp
  exact ⟨b, off, rfl, hlt, fun i x hx => (hc i x hx).below hlt hb hB⟩

theorem LocksR.mono {w : World} {B B' : Nat} {v : Value} {ls : List LockD} (h : LocksR w B v ls) (hB : B ≤ B') : LocksR w B' v ls := by
  obtain ⟨ao, cap, rfl, h1, h2, h3, h4⟩ := h
  refine ⟨ao, cap, rfl, h1, h2, h3, fun hp => ?_⟩
  obtain ⟨b, off, rfl, hlt, hc⟩ := h4 hp
  exact ⟨b, off, rfl, by omega, fun i x hx => (hc i x hx).mono hB⟩

theorem IntsR.len {w : World} {B : Nat} {v : Value} {xs : List Int} (h : IntsR w B v xs) : xs.length * 8 ≤ 140737488351232 := by
  obtain ⟨_, _, _, _, h2, _⟩ := h
  exact h2

theorem LocksR.len {w : World} {B : Nat} {v : Value} {ls : List LockD} (h : LocksR w B v ls) : ls.length * 56 ≤ 140737488351232 := by
  obtain ⟨_, _, _, _, h2, _⟩ := h
  exact h2

theorem drewN_below (B : Nat) (w : World) (n : Nat) : Below B w (w.drewN n) := ⟨rfl, rfl, rfl, Nat.le_refl _, fun _ _ => rfl⟩

end Go.Proofs.Ytpcacaohknkdlag

namespace Go.Proofs.Ytpcacaohknkdlag

open Go.RowKit

theorem phid {p : Prop} (h : p) : Hid p := h

/-- A pair, as plain data. -/
structure PairD where
  name : ByteArray
  value : ByteArray
  version : Int

/-- The cells of a pair. -/
def pairCells (x : PairD) : List Value := [.string x.name, .string x.value, .int .i64 x.version]

def flatP (ps : List PairD) : List Value := ps.flatMap pairCells

/-- The pair x lies at ⟨b, o, none⟩. -/
def PairAt (w : World) (b o : Nat) (x : PairD) : Prop :=
  w.cell? ⟨b, o, none⟩ = some (.string x.name) ∧ w.cell? ⟨b, o + 1, none⟩ = some (.string x.value) ∧ w.cell? ⟨b, o + 2, none⟩ = some (.int .i64 x.version) ∧
    x.name.size ≤ 140737488351232 ∧ x.value.size ≤ 140737488351232

/-- The value v reads in w as the pairs ps; all their memory lies below block B. -/
def PairsR (w : World) (B : Nat) (v : Value) (ps : List PairD) : Prop :=
  ∃ ao cap, v = .slice ao ps.length cap ∧ ps.length ≤ cap ∧ ps.length * 40 ≤ 140737488351232 ∧ (ao = none → cap = 0) ∧
    (0 < ps.length → ∃ b off, ao = some ⟨b, off, none⟩ ∧ b < B ∧ ∀ (i : Nat) (x : PairD), ps[i]? = some x → PairAt w b (off + i * 3) x)

theorem PairAt.below {w w' : World} {B b o : Nat} {x : PairD} (h : PairAt w b o x) (hlt : b < B) (hb : Below B w w') : PairAt w' b o x := by
  obtain ⟨c0, c1, c2, hs⟩ := h
  have key : ∀ o', w'.cell? ⟨b, o', none⟩ = w.cell? ⟨b, o', none⟩ := fun o' => hb.cell (p := ⟨b, o', none⟩) hlt
  exact ⟨(key _).trans c0, (key _).trans c1, (key _).trans c2, hs⟩

theorem PairsR.below {w w' : World} {B : Nat} {v : Value} {ps : List PairD} (h : PairsR w B v ps) {B' : Nat} (hb : Below B' w w') (hB : B ≤ B') : PairsR w' B v ps := by
  obtain ⟨ao, cap, rfl, h1, h2, h3, h4⟩ := h
  refine ⟨ao, cap, rfl, h1, h2, h3, fun hp => ?_⟩
  obtain ⟨b, off, rfl, hlt, hc⟩ := h4 hp
  exact ⟨b, off, rfl, hlt, fun i x hx => (hc i x hx).below (by omega) hb⟩

theorem PairsR.mono {w : World} {B B' : Nat} {v : Value} {ps : List PairD} (h : PairsR w B v ps) (hB : B ≤ B') : PairsR w B' v ps := by
  obtain ⟨ao, cap, rfl, h1, h2, h3, h4⟩ := h
  refine ⟨ao, cap, rfl, h1, h2, h3, fun hp => ?_⟩
  obtain ⟨b, off, rfl, hlt, hc⟩ := h4 hp
  exact ⟨b, off, rfl, by omega, hc⟩

theorem PairsR.len {w : World} {B : Nat} {v : Value} {ps : List PairD} (h : PairsR w B v ps) : ps.length * 40 ≤ 140737488351232 := by
  obtain ⟨_, _, _, _, h2, _⟩ := h
  exact h2

theorem PairsR.nil (w : World) (B : Nat) : PairsR w B (.slice none 0 0) [] := ⟨none, 0, rfl, Nat.le_refl _, by simp, fun _ => rfl, fun h => absurd h (by simp)⟩

theorem pairs_drewN_below (B : Nat) (w : World) (n : Nat) : Below B w (w.drewN n) := ⟨rfl, rfl, rfl, Nat.le_refl _, fun _ _ => rfl⟩

theorem flatP_length (ps : List PairD) : (flatP ps).length = ps.length * 3 := by
  induction ps with
  | nil => rfl
  | cons r t ih => simp only [flatP, List.flatMap_cons, List.length_append] at ih ⊢; simp only [pairCells, List.length_cons, List.length_nil, ih]; omega

theorem flatP_at {ps : List PairD} {i : Nat} {r : PairD} (h : ps[i]? = some r) (j : Nat) (hj : j < 3) : (flatP ps)[i * 3 + j]? = (pairCells r)[j]? := by
  induction ps generalizing i with
  | nil => simp at h
  | cons q t ih =>
    have e : flatP (q :: t) = pairCells q ++ flatP t := by simp [flatP]
    have hl : (pairCells q).length = 3 := rfl
    rw [e]
    cases i with
    | zero =>
      have : q = r := by simpa using h
      subst this
      rw [Nat.zero_mul, Nat.zero_add, List.getElem?_append_left (by omega)]
    | succ i =>
      rw [List.getElem?_append_right (by omega), hl, show (i + 1) * 3 + j - 3 = i * 3 + j by omega]
      exact ih (by simpa using h)

/-- The cells of a value's row, as a copy or an append wants them. -/
theorem PairsR.cells {w : World} {b off : Nat} {ps : List PairD} (hc : ∀ (i : Nat) (x : PairD), ps[i]? = some x → PairAt w b (off + i * 3) x) : ∀ (j : Nat) (u : Value), (flatP ps)[j]? = some u → w.cell? ⟨b, off + j, none⟩ = some u := by
  intro j u hj
  have hjl : j < ps.length * 3 := by rw [← flatP_length]; exact (List.getElem?_eq_some_iff.1 hj).1
  obtain ⟨x, hx⟩ : ∃ x, ps[j / 3]? = some x := ⟨_, List.getElem?_eq_getElem (by omega)⟩
  obtain ⟨c0, c1, c2, -⟩ := hc _ x hx
  have e := flatP_at hx (j % 3) (by omega)
  rw [show j / 3 * 3 + j % 3 = j by omega, hj] at e
  rcases (by omega : j % 3 = 0 ∨ j % 3 = 1 ∨ j % 3 = 2) with h | h | h
  · rw [h] at e
    rw [show off + j = off + j / 3 * 3 by omega, c0, e]; rfl
  · rw [h] at e
    rw [show off + j = off + j / 3 * 3 + 1 by omega, c1, e]; rfl
  · rw [h] at e
    rw [show off + j = off + j / 3 * 3 + 2 by omega, c2, e]; rfl

end Go.Proofs.Ytpcacaohknkdlag
