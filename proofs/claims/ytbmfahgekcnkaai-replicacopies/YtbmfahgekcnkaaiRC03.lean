/- Logs in memory: what a value reads as; what is asked of package log; Locks as they lie in memory: what a value reads as (joined by program) -/
import Derived.Test.YtbmfahgekcnkaaiRows
import Derived.WalkKit
import Derived.ProofKit
import Derived.WalkLawsBesides
import Derived.Deep.AppendLies
import Derived.Test.YtbmfahgekcnkaaiRC01
import Derived.Test.YtbmfahgekcnkaaiRC02
namespace Go.Proofs.Ytbmfahgekcnkaai

open Go.RowKit

/-- The value v reads in w as the log l. -/
def LogR (w : World) (B : Nat) (v : Value) (l : LogD) : Prop := ∃ ev, v = .agg #[.int .i64 l.base, ev] ∧ TextsR w B ev l.ents

theorem LogR.below {w w' : World} {B : Nat} {v : Value} {l : LogD} (h : LogR w B v l) {B' : Nat} (hb : Below B' w w') (hB : B ≤ B') : LogR w' B v l := by
  obtain ⟨ev, rfl, h1⟩ := h
  exact ⟨ev, rfl, h1.below hb hB⟩

theorem LogR.shape {w : World} {B : Nat} {v : Value} {l : LogD} (h : LogR w B v l) : ∃ eo ec, v = .agg #[.int .i64 l.base, .slice eo l.ents.length ec] ∧ TextsR w B (.slice eo l.ents.length ec) l.ents := by
  obtain ⟨ev, rfl, h1⟩ := h
  obtain ⟨eo, ec, rfl⟩ := h1.slice
  exact ⟨eo, ec, rfl, h1⟩

theorem TextsR.cap {w : World} {B : Nat} {eo : Option Addr} {n ec : Nat} {ts : List ByteArray} (h : TextsR w B (.slice eo n ec) ts) : n ≤ ec := by
  obtain ⟨ao, cap, e, h1, -⟩ := h
  simp only [Value.slice.injEq] at e
  obtain ⟨rfl, rfl, rfl⟩ := e
  exact h1

theorem LogR.nil (w : World) (B : Nat) : LogR w B (.agg #[.int .i64 0, .slice none 0 0]) ⟨0, []⟩ := ⟨_, rfl, TextsR.nil _ _⟩

/-- The texts of a value fit. -/
theorem TextsR.sizes {w : World} {B : Nat} {v : Value} {ts : List ByteArray} (h : TextsR w B v ts) : ∀ t ∈ ts, t.size ≤ 140737488351232 := by
  intro t ht
  obtain ⟨i, hi⟩ := List.mem_iff_getElem?.1 ht
  obtain ⟨ao, cap, rfl, h1, h2, h3, h4⟩ := h
  obtain ⟨b, off, rfl, hb, hc⟩ := h4 (by have := (List.getElem?_eq_some_iff.1 hi).1; omega)
  exact (hc i t hi).2

end Go.Proofs.Ytbmfahgekcnkaai

namespace Go.Proofs.Ytbmfahgekcnkaai

open Go.RowKit

/-- A lock, as plain data. -/
structure LockD where
  name : ByteArray
  holder : Int
  fence : Int
  line : List Int

/-- The value v reads in w as the numbers xs; its memory lies below block B. -/
def IntsR (w : World) (B : Nat) (v : Value) (xs : List Int) : Prop :=
  ∃ ao cap, v = .slice ao xs.length cap ∧ xs.length ≤ cap ∧ xs.length * 8 ≤ 140737488351232 ∧ (ao = none → cap = 0) ∧
    (0 < xs.length → ∃ b off, ao = some ⟨b, off, none⟩ ∧ b < B ∧ ∀ i x, xs[i]? = some x → w.cell? ⟨b, off + i, none⟩ = some (.int .i64 x))

/-- The lock x lies at ⟨b, o, none⟩. -/
def LockAt (w : World) (B : Nat) (b o : Nat) (x : LockD) : Prop :=
  ∃ lv, w.cell? ⟨b, o, none⟩ = some (.string x.name) ∧ w.cell? ⟨b, o + 1, none⟩ = some (.int .i64 x.holder) ∧ w.cell? ⟨b, o + 2, none⟩ = some (.int .i64 x.fence) ∧
    w.cell? ⟨b, o + 3, none⟩ = some lv ∧ IntsR w B lv x.line ∧ x.name.size ≤ 140737488351232

/-- The value v reads in w as the locks ls; all their memory lies below block B. -/
def LocksR (w : World) (B : Nat) (v : Value) (ls : List LockD) : Prop :=
  ∃ ao cap, v = .slice ao ls.length cap ∧ ls.length ≤ cap ∧ ls.length * 56 ≤ 140737488351232 ∧ (ao = none → cap = 0) ∧
    (0 < ls.length → ∃ b off, ao = some ⟨b, off, none⟩ ∧ b < B ∧ ∀ i x, ls[i]? = some x → LockAt w B b (off + i * 4) x)

theorem IntsR.below {w w' : World} {B : Nat} {v : Value} {xs : List Int} (h : IntsR w B v xs) {B' : Nat} (hb : Below B' w w') (hB : B ≤ B') : IntsR w' B v xs := by
  obtain ⟨ao, cap, rfl, h1, h2, h3, h4⟩ := h
  refine ⟨ao, cap, rfl, h1, h2, h3, fun hp => ?_⟩
  obtain ⟨b, off, rfl, hlt, hc⟩ := h4 hp
  exact ⟨b, off, rfl, hlt, fun i x hx => (hb.cell (p := ⟨b, off + i, none⟩) (by simp; omega)).trans (hc i x hx)⟩

theorem IntsR.mono {w : World} {B B' : Nat} {v : Value} {xs : List Int} (h : IntsR w B v xs) (hB : B ≤ B') : IntsR w B' v xs := by
  obtain ⟨ao, cap, rfl, h1, h2, h3, h4⟩ := h
  refine ⟨ao, cap, rfl, h1, h2, h3, fun hp => ?_⟩
  obtain ⟨b, off, rfl, hlt, hc⟩ := h4 hp
  exact ⟨b, off, rfl, by omega, hc⟩

theorem LockAt.below {w w' : World} {B b o : Nat} {x : LockD} (h : LockAt w B b o x) (hlt : b < B) {B' : Nat} (hb : Below B' w w') (hB : B ≤ B') : LockAt w' B b o x := by
  obtain ⟨lv, c0, c1, c2, c3, hl, hs⟩ := h
  have key : ∀ o', w'.cell? ⟨b, o', none⟩ = w.cell? ⟨b, o', none⟩ := fun o' => hb.cell (p := ⟨b, o', none⟩) (by simp; omega)
  exact ⟨lv, (key _).trans c0, (key _).trans c1, (key _).trans c2, (key _).trans c3, hl.below hb hB, hs⟩

theorem LockAt.mono {w : World} {B B' b o : Nat} {x : LockD} (h : LockAt w B b o x) (hB : B ≤ B') : LockAt w B' b o x := by
  obtain ⟨lv, c0, c1, c2, c3, hl, hs⟩ := h
  exact ⟨lv, c0, c1, c2, c3, hl.mono hB, hs⟩

theorem LocksR.below {w w' : World} {B : Nat} {v : Value} {ls : List LockD} (h : LocksR w B v ls) {B' : Nat} (hb : Below B' w w') (hB : B ≤ B') : LocksR w' B v ls := by
  obtain ⟨ao, cap, rfl, h1, h2, h3, h4⟩ := h
  refine ⟨ao, cap, rfl, h1, h2, h3, fun hp => ?_⟩
  obtain ⟨b, off, rfl, hlt, hc⟩ := h4 hp
  exact ⟨b, off, rfl, hlt, fun i x hx => (hc i x hx).below hlt hb hB⟩

theorem LocksR.mono {w : World} {B B' : Nat} {v : Value} {ls : List LockD} (h : LocksR w B v ls) (hB : B ≤ B') : LocksR w B' v ls := by
  obtain ⟨ao, cap, rfl, h1, h2, h3, h4⟩ := h
  refine ⟨ao, cap, rfl, h1, h2, h3, fun hp => ?_⟩
  obtain ⟨b, off, rfl, hlt, hc⟩ := h4 hp
  exact ⟨b, off, rfl, by omega, fun i x hx => (hc i x hx).mono hB⟩

theorem IntsR.len {w : World} {B : Nat} {v : Value} {xs : List Int} (h : IntsR w B v xs) : xs.length * 8 ≤ 140737488351232 := by
  obtain ⟨_, _, _, _, h2, _⟩ := h
  exact h2

theorem LocksR.len {w : World} {B : Nat} {v : Value} {ls : List LockD} (h : LocksR w B v ls) : ls.length * 56 ≤ 140737488351232 := by
  obtain ⟨_, _, _, _, h2, _⟩ := h
  exact h2

theorem drewN_below (B : Nat) (w : World) (n : Nat) : Below B w (w.drewN n) := ⟨rfl, rfl, rfl, Nat.le_refl _, fun _ _ => rfl⟩

end Go.Proofs.Ytbmfahgekcnkaai
