/- machine.Check; Locks in memory of a call's own: a row of locks, each with a line of its own (joined by program) -/
import Derived.Laws.Rows
import Derived.Test.YtpcacaohknkdlagSE02
import Derived.Test.YtpcacaohknkdlagSE08
import Derived.Test.YtpcacaohknkdlagSE09
import Derived.Test.YtpcacaohknkdlagSE10
import Derived.Test.YtpcacaohknkdlagSE00
namespace Go.Proofs.Ytpcacaohknkdlag

open Go.RowKit

/-- What is wrong with a state; 0: nothing. -/
def checkM (s : StateD) : Int := if checkS s.sess s.index ≠ 0 then checkS s.sess s.index else if checkL s.locks ≠ 0 then checkL s.locks else checkP s.pairs

theorem checkM_sess {s : StateD} (h : checkS s.sess s.index ≠ 0) : checkM s = checkS s.sess s.index := by unfold checkM; rw [if_pos h]

theorem checkM_locks {s : StateD} (h : checkS s.sess s.index = 0) (h2 : checkL s.locks ≠ 0) : checkM s = checkL s.locks := by unfold checkM; rw [if_neg (by simpa using h), if_pos h2]

theorem checkM_pairs {s : StateD} (h : checkS s.sess s.index = 0) (h2 : checkL s.locks = 0) : checkM s = checkP s.pairs := by unfold checkM; rw [if_neg (by simpa using h), if_neg (by simpa using h2)]

theorem checkM_zero {s : StateD} (h : checkM s = 0) : checkS s.sess s.index = 0 ∧ checkL s.locks = 0 ∧ checkP s.pairs = 0 := by
  by_cases h1 : checkS s.sess s.index = 0
  · by_cases h2 : checkL s.locks = 0
    · exact ⟨h1, h2, by rw [checkM_pairs h1 h2] at h; exact h⟩
    · rw [checkM_locks h1 h2] at h; exact absurd h h2
  · rw [checkM_sess h1] at h; exact absurd h h1

/-- The three checks of a state, a case each. -/
theorem checkM_cases (s : StateD) : (checkS s.sess s.index ≠ 0 ∧ checkM s = checkS s.sess s.index) ∨ (checkS s.sess s.index = 0 ∧ checkL s.locks ≠ 0 ∧ checkM s = checkL s.locks) ∨ (checkS s.sess s.index = 0 ∧ checkL s.locks = 0 ∧ checkM s = checkP s.pairs) := by
  by_cases h1 : checkS s.sess s.index = 0
  · by_cases h2 : checkL s.locks = 0
    · exact Or.inr (Or.inr ⟨h1, h2, checkM_pairs h1 h2⟩)
    · exact Or.inr (Or.inl ⟨h1, h2, checkM_locks h1 h2⟩)
  · exact Or.inl ⟨h1, checkM_sess h1⟩

set_option maxHeartbeats 800000 in
theorem machCheck_any (v : Value) (s : StateD) (w : World) (B : Nat) (hv : StateR w B v s) (hB : B ≤ w.heap.size) :
    Calls Try.prog 18 #[v] w fun e w' => e = .returned (.int .i64 (checkM s)) ∧ Below w.heap.size w w' := by
  obtain ⟨lv, pv, sv, rfl, h1, h2, h3⟩ := hv
  have CS := ghid (fun (w' : World) (hb : Below w.heap.size w w') => sessCheck_any sv s.sess s.index w' B (h3.below hb hB) (by have := hb.size; omega))
  have CL := ghid (fun (w' : World) (hb : Below w.heap.size w w') => check_any lv s.locks w' B (h1.below hb hB) (by have := hb.size; omega))
  have CP := ghid (fun (w' : World) (hb : Below w.heap.size w w') => pairCheck_any pv s.pairs w' B (h2.below hb hB) (by have := hb.size; omega))
  have HC := ghid (checkM_cases s)
  obtain ⟨lo, lc, rfl⟩ := h1.slice
  obtain ⟨po, pc, rfl⟩ := h2.slice
  obtain ⟨so, sc, rfl⟩ := h3.slice
  obtain ⟨ln, hln⟩ : ∃ n, n = s.locks.length := ⟨_, rfl⟩
  obtain ⟨pn, hpn⟩ : ∃ n, n = s.pairs.length := ⟨_, rfl⟩
  obtain ⟨sn, hsn⟩ : ∃ n, n = s.sess.length := ⟨_, rfl⟩
  obtain ⟨ix, hix⟩ : ∃ n, n = s.index := ⟨_, rfl⟩
  obtain ⟨c1, hc1⟩ : ∃ n, n = checkS s.sess s.index := ⟨_, rfl⟩
  obtain ⟨c2, hc2⟩ : ∃ n, n = checkL s.locks := ⟨_, rfl⟩
  obtain ⟨c3, hc3⟩ : ∃ n, n = checkP s.pairs := ⟨_, rfl⟩
  obtain ⟨c0, hc0⟩ : ∃ n, n = checkM s := ⟨_, rfl⟩
  rw [← hsn, ← hc1, ← hix] at CS
  rw [← hln, ← hc2] at CL
  rw [← hpn, ← hc3] at CP
  rw [← hc1, ← hc2, ← hc3, ← hc0] at HC
  rw [← hc0, ← hix, ← hln, ← hpn, ← hsn]
  have hb0 : Below w.heap.size w (w.alloc (.cells #[.int .i64 ix, .slice lo ln lc, .slice po pn pc, .slice so sn sc] 26)) := (Below.refl _ _).alloc (Nat.le_refl _) _
  have HB0 := ghid hb0
  clear h1 h2 h3 hln hpn hsn hix hc1 hc2 hc3 hc0 hb0
  rcases HC.out with ⟨e1, e0⟩ | ⟨e1, e2, e0⟩ | ⟨e1, e2, e0⟩
  · subst e0
    have hn : (c0 != 0) = true := by simpa using e1
    clear HC e1
    go_enter Try.func18, Try.ntmps18
    go_wp2_with fail
    refine (CS.out _ HB0.out).mono ?_
    rintro e w1 ⟨rfl, hb1⟩
    have HB1 := ghid (HB0.out.trans (hb1.mono (by simp)))
    clear hb1
    go_wp2
    go_ret
    exact ⟨rfl, HB1.out⟩
  · subst e0 e1
    have hn : (c0 != 0) = true := by simpa using e2
    clear HC e2
    go_enter Try.func18, Try.ntmps18
    go_wp2_with fail
    refine (CS.out _ HB0.out).mono ?_
    rintro e w1 ⟨rfl, hb1⟩
    have HB1 := ghid (HB0.out.trans (hb1.mono (by simp)))
    obtain ⟨k1, k2⟩ := gcell hb1
    clear hb1
    go_wp2_with fail
    refine (CL.out _ HB1.out).mono ?_
    rintro e w2 ⟨rfl, hb2⟩
    have HB2 := ghid (HB1.out.trans (hb2.mono HB1.out.size))
    clear hb2
    go_wp2
    go_ret
    exact ⟨rfl, HB2.out⟩
  · subst e0 e1 e2
    clear HC
    go_enter Try.func18, Try.ntmps18
    go_wp2_with fail
    refine (CS.out _ HB0.out).mono ?_
    rintro e w1 ⟨rfl, hb1⟩
    have HB1 := ghid (HB0.out.trans (hb1.mono (by simp)))
    obtain ⟨k1, k2⟩ := gcell hb1
    have hz1 : w.heap.size < w1.heap.size := by have := hb1.size; simp at this; omega
    clear hb1
    go_wp2_with fail
    refine (CL.out _ HB1.out).mono ?_
    rintro e w2 ⟨rfl, hb2⟩
    have HB2 := ghid (HB1.out.trans (hb2.mono HB1.out.size))
    obtain ⟨k3, k4⟩ := gcell hb2
    clear hb2
    go_wp2_with fail
    refine (CP.out _ HB2.out).mono ?_
    rintro e w3 ⟨rfl, hb3⟩
    have HB3 := ghid (HB2.out.trans (hb3.mono HB2.out.size))
    clear hb3
    go_wp2
    go_ret
    exact ⟨rfl, HB3.out⟩

end Go.Proofs.Ytpcacaohknkdlag

namespace Go.Proofs.Ytpcacaohknkdlag

open Go.RowKit

def intCells (xs : List Int) : List Value := xs.map (Value.int .i64)

/-- The cells of a lock, its line at a value. -/
def lockCells (r : LockD × Value) : List Value := [.string r.1.name, .int .i64 r.1.holder, .int .i64 r.1.fence, r.2]

def flat (rs : List (LockD × Value)) : List Value := rs.flatMap lockCells

/-- The blocks of the lines. -/
def lineBlocks (rs : List (LockD × Value)) : List Nat := rs.flatMap fun r => r.2.ownBlock.toList

/-- Each line is owned, in a block of its own. -/
structure Lines (w : World) (base : Nat) (rs : List (LockD × Value)) : Prop where
  each : ∀ r ∈ rs, w.ownsRow base 3 1 r.2 r.1.line.length (intCells r.1.line) ∧ r.1.line.length * 8 ≤ 140737488351232 ∧ r.1.name.size ≤ 140737488351232
  nodup : (lineBlocks rs).Nodup

/-- The value v owns the locks rs: the row, and a line each. -/
structure OwnL (w : World) (base : Nat) (v : Value) (rs : List (LockD × Value)) : Prop where
  row : w.ownsRow base 55 4 v rs.length (flat rs)
  lines : Lines w base rs
  apart : ∀ b ∈ lineBlocks rs, v.ownBlock ≠ some b
  len : rs.length * 56 ≤ 140737488351232

theorem ownsRow_keep {w w' : World} {base : Nat} {e : TypeId} {size : Nat} {v : Value} {n : Nat} {xs : List Value} (h : w.ownsRow base e size v n xs) (hk : ∀ b, v.ownBlock = some b → w'.heap[b]? = w.heap[b]?) : w'.ownsRow base e size v n xs := by
  obtain ⟨h1, h2⟩ := h
  refine ⟨h1, ?_⟩
  rcases h2 with h2 | ⟨g, cap, cur, rfl, hg, hh, r⟩
  · exact Or.inl h2
  · exact Or.inr ⟨g, cap, cur, rfl, hg, by rw [hk g rfl]; exact hh, r⟩

theorem ownsRow_base {w : World} {base base' : Nat} {e : TypeId} {size : Nat} {v : Value} {n : Nat} {xs : List Value} (h : w.ownsRow base e size v n xs) (hk : ∀ b, v.ownBlock = some b → base' ≤ b) : w.ownsRow base' e size v n xs := by
  obtain ⟨h1, h2⟩ := h
  refine ⟨h1, ?_⟩
  rcases h2 with h2 | ⟨g, cap, cur, rfl, hg, hh, r⟩
  · exact Or.inl h2
  · exact Or.inr ⟨g, cap, cur, rfl, hk g rfl, hh, r⟩

theorem ownsRow_mono {w : World} {base base' : Nat} {e : TypeId} {size : Nat} {v : Value} {n : Nat} {xs : List Value} (h : w.ownsRow base e size v n xs) (hb : base' ≤ base) : w.ownsRow base' e size v n xs :=
  ownsRow_base h fun b hbk => Nat.le_trans hb (h.lt b hbk).1

theorem mem_lineBlocks {rs : List (LockD × Value)} {b : Nat} : b ∈ lineBlocks rs ↔ ∃ r ∈ rs, r.2.ownBlock = some b := by
  unfold lineBlocks
  rw [List.mem_flatMap]
  constructor
  · rintro ⟨r, hr, hb⟩
    exact ⟨r, hr, by simpa using hb⟩
  · rintro ⟨r, hr, hb⟩
    exact ⟨r, hr, by simp [hb]⟩

theorem Lines.lt {w : World} {base : Nat} {rs : List (LockD × Value)} (h : Lines w base rs) {b : Nat} (hb : b ∈ lineBlocks rs) : base ≤ b ∧ b < w.heap.size := by
  obtain ⟨r, hr, hbk⟩ := mem_lineBlocks.1 hb
  exact (h.each r hr).1.lt b hbk

theorem Lines.keep {w w' : World} {base : Nat} {rs : List (LockD × Value)} (h : Lines w base rs) (hk : ∀ b ∈ lineBlocks rs, w'.heap[b]? = w.heap[b]?) : Lines w' base rs :=
  ⟨fun r hr => ⟨ownsRow_keep (h.each r hr).1 fun b hb => hk b (mem_lineBlocks.2 ⟨r, hr, hb⟩), (h.each r hr).2⟩, h.nodup⟩

theorem Lines.mono {w : World} {base base' : Nat} {rs : List (LockD × Value)} (h : Lines w base rs) (hb : base' ≤ base) : Lines w base' rs :=
  ⟨fun r hr => ⟨ownsRow_mono (h.each r hr).1 hb, (h.each r hr).2⟩, h.nodup⟩

theorem Lines.below {w w' : World} {base : Nat} {rs : List (LockD × Value)} (h : Lines w base rs) {B : Nat} (hb : Below B w w') (hB : w.heap.size ≤ B) : Lines w' base rs :=
  h.keep fun b hbk => hb.block b (by have := (h.lt hbk).2; omega)

theorem Lines.nil (w : World) (base : Nat) : Lines w base [] := ⟨fun r hr => absurd hr (by simp), by simp [lineBlocks]⟩

theorem OwnL.keep {w w' : World} {base : Nat} {v : Value} {rs : List (LockD × Value)} (h : OwnL w base v rs) (hr : ∀ b, v.ownBlock = some b → w'.heap[b]? = w.heap[b]?) (hk : ∀ b ∈ lineBlocks rs, w'.heap[b]? = w.heap[b]?) : OwnL w' base v rs :=
  ⟨ownsRow_keep h.row hr, h.lines.keep hk, h.apart, h.len⟩

theorem OwnL.below {w w' : World} {base : Nat} {v : Value} {rs : List (LockD × Value)} (h : OwnL w base v rs) {B : Nat} (hb : Below B w w') (hB : w.heap.size ≤ B) : OwnL w' base v rs :=
  h.keep (fun b hbk => hb.block b (by have := (h.row.lt b hbk).2; omega)) (fun b hbk => hb.block b (by have := (h.lines.lt hbk).2; omega))

theorem OwnL.mono {w : World} {base base' : Nat} {v : Value} {rs : List (LockD × Value)} (h : OwnL w base v rs) (hb : base' ≤ base) : OwnL w base' v rs :=
  ⟨ownsRow_mono h.row hb, h.lines.mono hb, h.apart, h.len⟩

/-- The value v owns the locks ls, all in blocks from base on. -/
def LocksO (w : World) (base : Nat) (v : Value) (ls : List LockD) : Prop := ∃ rs, rs.map (·.1) = ls ∧ OwnL w base v rs

theorem LocksO.below {w w' : World} {base : Nat} {v : Value} {ls : List LockD} (h : LocksO w base v ls) {B : Nat} (hb : Below B w w') (hB : w.heap.size ≤ B) : LocksO w' base v ls := by
  obtain ⟨rs, rfl, h⟩ := h
  exact ⟨rs, rfl, h.below hb hB⟩

theorem LocksO.mono {w : World} {base base' : Nat} {v : Value} {ls : List LockD} (h : LocksO w base v ls) (hb : base' ≤ base) : LocksO w base' v ls := by
  obtain ⟨rs, rfl, h⟩ := h
  exact ⟨rs, rfl, h.mono hb⟩

end Go.Proofs.Ytpcacaohknkdlag
