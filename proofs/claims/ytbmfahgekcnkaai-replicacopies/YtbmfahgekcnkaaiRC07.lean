/- Locks in memory of a call's own: a row of locks, each with a line of its own; One lock of a row put anew (joined by program) -/
import Derived.Laws.Rows
import Derived.Test.YtbmfahgekcnkaaiRC03
namespace Go.Proofs.Ytbmfahgekcnkaai

open Go.RowKit

def intCells (xs : List Int) : List Value := xs.map (Value.int .i64)

/-- The cells of a lock, its line at a value. -/
def lockCells (r : LockD × Value) : List Value := [.string r.1.name, .int .i64 r.1.holder, .int .i64 r.1.fence, r.2]

def flat (rs : List (LockD × Value)) : List Value := rs.flatMap lockCells

/-- The blocks of the lines. -/
def lineBlocks (rs : List (LockD × Value)) : List Nat := rs.flatMap fun r => r.2.ownBlock.toList

/-- Each line is owned, in a block of its own. -/
structure Lines (w : World) (base : Nat) (rs : List (LockD × Value)) : Prop where
  each : ∀ r ∈ rs, w.ownsRow base 3 1 r.2 r.1.line.length (intCells r.1.line) ∧ r.1.line.length * 8 ≤ 140737488351232 ∧ r.1.name.size ≤ 140737488351232
  nodup : (lineBlocks rs).Nodup

/-- The value v owns the locks rs: the row, and a line each. -/
structure OwnL (w : World) (base : Nat) (v : Value) (rs : List (LockD × Value)) : Prop where
  row : w.ownsRow base 75 4 v rs.length (flat rs)
  lines : Lines w base rs
  apart : ∀ b ∈ lineBlocks rs, v.ownBlock ≠ some b
  len : rs.length * 56 ≤ 140737488351232

theorem ownsRow_keep {w w' : World} {base : Nat} {e : TypeId} {size : Nat} {v : Value} {n : Nat} {xs : List Value} (h : w.ownsRow base e size v n xs) (hk : ∀ b, v.ownBlock = some b → w'.heap[b]? = w.heap[b]?) : w'.ownsRow base e size v n xs := by
  obtain ⟨h1, h2⟩ := h
  refine ⟨h1, ?_⟩
  rcases h2 with h2 | ⟨g, cap, cur, rfl, hg, hh, r⟩
  · exact Or.inl h2
  · exact Or.inr ⟨g, cap, cur, rfl, hg, by rw [hk g rfl]; exact hh, r⟩

theorem ownsRow_base {w : World} {base base' : Nat} {e : TypeId} {size : Nat} {v : Value} {n : Nat} {xs : List Value} (h : w.ownsRow base e size v n xs) (hk : ∀ b, v.ownBlock = some b → base' ≤ b) : w.ownsRow base' e size v n xs := by
  obtain ⟨h1, h2⟩ := h
  refine ⟨h1, ?_⟩
  rcases h2 with h2 | ⟨g, cap, cur, rfl, hg, hh, r⟩
  · exact Or.inl h2
  · exact Or.inr ⟨g, cap, cur, rfl, hk g rfl, hh, r⟩

theorem ownsRow_mono {w : World} {base base' : Nat} {e : TypeId} {size : Nat} {v : Value} {n : Nat} {xs : List Value} (h : w.ownsRow base e size v n xs) (hb : base' ≤ base) : w.ownsRow base' e size v n xs :=
  ownsRow_base h fun b hbk => Nat.le_trans hb (h.lt b hbk).1

theorem ownsRow_below {w w' : World} {base : Nat} {e : TypeId} {size : Nat} {v : Value} {n : Nat} {xs : List Value} (h : w.ownsRow base e size v n xs) {B : Nat} (hb : Below B w w') (hB : w.heap.size ≤ B) : w'.ownsRow base e size v n xs :=
  ownsRow_keep h fun b hbk => hb.block b (by have := (h.lt b hbk).2; omega)

theorem mem_lineBlocks {rs : List (LockD × Value)} {b : Nat} : b ∈ lineBlocks rs ↔ ∃ r ∈ rs, r.2.ownBlock = some b := by
  unfold lineBlocks
  rw [List.mem_flatMap]
  constructor
  · rintro ⟨r, hr, hb⟩
    exact ⟨r, hr, by simpa using hb⟩
  · rintro ⟨r, hr, hb⟩
    exact ⟨r, hr, by simp [hb]⟩

theorem Lines.lt {w : World} {base : Nat} {rs : List (LockD × Value)} (h : Lines w base rs) {b : Nat} (hb : b ∈ lineBlocks rs) : base ≤ b ∧ b < w.heap.size := by
  obtain ⟨r, hr, hbk⟩ := mem_lineBlocks.1 hb
  exact (h.each r hr).1.lt b hbk

theorem Lines.keep {w w' : World} {base : Nat} {rs : List (LockD × Value)} (h : Lines w base rs) (hk : ∀ b ∈ lineBlocks rs, w'.heap[b]? = w.heap[b]?) : Lines w' base rs :=
  ⟨fun r hr => ⟨ownsRow_keep (h.each r hr).1 fun b hb => hk b (mem_lineBlocks.2 ⟨r, hr, hb⟩), (h.each r hr).2⟩, h.nodup⟩

theorem Lines.mono {w : World} {base base' : Nat} {rs : List (LockD × Value)} (h : Lines w base rs) (hb : base' ≤ base) : Lines w base' rs :=
  ⟨fun r hr => ⟨ownsRow_mono (h.each r hr).1 hb, (h.each r hr).2⟩, h.nodup⟩

theorem Lines.below {w w' : World} {base : Nat} {rs : List (LockD × Value)} (h : Lines w base rs) {B : Nat} (hb : Below B w w') (hB : w.heap.size ≤ B) : Lines w' base rs :=
  h.keep fun b hbk => hb.block b (by have := (h.lt hbk).2; omega)

theorem Lines.nil (w : World) (base : Nat) : Lines w base [] := ⟨fun r hr => absurd hr (by simp), by simp [lineBlocks]⟩

theorem lineBlocks_snoc (rs : List (LockD × Value)) (r : LockD × Value) : lineBlocks (rs ++ [r]) = lineBlocks rs ++ r.2.ownBlock.toList := by simp [lineBlocks]

theorem flat_snoc (rs : List (LockD × Value)) (r : LockD × Value) : flat (rs ++ [r]) = flat rs ++ lockCells r := by simp [flat]

theorem flat_length (rs : List (LockD × Value)) : (flat rs).length = rs.length * 4 := by
  induction rs with
  | nil => rfl
  | cons r t ih => simp only [flat, List.flatMap_cons, List.length_append] at ih ⊢; simp only [lockCells, List.length_cons, List.length_nil, ih]; omega

/-- One line more, in a block that none of the others has. -/
theorem Lines.snoc {w : World} {base : Nat} {rs : List (LockD × Value)} {r : LockD × Value} (h : Lines w base rs) (hr : w.ownsRow base 3 1 r.2 r.1.line.length (intCells r.1.line)) (hl : r.1.line.length * 8 ≤ 140737488351232) (hn : r.1.name.size ≤ 140737488351232)
    (hne : ∀ b, r.2.ownBlock = some b → b ∉ lineBlocks rs) : Lines w base (rs ++ [r]) := by
  refine ⟨fun q hq => ?_, ?_⟩
  · rcases List.mem_append.1 hq with hq | hq
    · exact h.each q hq
    · have : q = r := by simpa using hq
      subst this
      exact ⟨hr, hl, hn⟩
  · rw [lineBlocks_snoc]
    refine List.nodup_append.2 ⟨h.nodup, ?_, ?_⟩
    · cases hb : r.2.ownBlock <;> simp
    · intro a ha b hb hab
      subst hab
      exact hne a (by simpa using hb) ha

/-- What is owned reads as it is. -/
theorem ownsRow_ints {w : World} {base B : Nat} {v : Value} {xs : List Int} (h : w.ownsRow base 3 1 v xs.length (intCells xs)) (hl : xs.length * 8 ≤ 140737488351232) (hB : w.heap.size ≤ B) : IntsR w B v xs := by
  rcases h.2 with ⟨rfl, hn⟩ | ⟨g, cap, cur, rfl, _, hg, hle, hcm, hcs, htake⟩
  · have : xs = [] := List.eq_nil_of_length_eq_zero hn
    subst this
    exact ⟨none, 0, rfl, Nat.le_refl _, hl, fun _ => rfl, fun h => absurd h (by simp)⟩
  · refine ⟨some ⟨g, 0, none⟩, cap, rfl, hle, hl, (by intro h; cases h), fun _ => ⟨g, 0, rfl, ?_, fun i x hx => ?_⟩⟩
    · have := (h.lt g rfl).2; omega
    · have hi : i < xs.length := (List.getElem?_eq_some_iff.1 hx).1
      have := h.cellAt i (by omega)
      rw [Nat.zero_add, this]
      simp [intCells, hx]

theorem flat_at {rs : List (LockD × Value)} {i : Nat} {r : LockD × Value} (h : rs[i]? = some r) (j : Nat) (hj : j < 4) : (flat rs)[i * 4 + j]? = (lockCells r)[j]? := by
  induction rs generalizing i with
  | nil => simp at h
  | cons q t ih =>
    have e : flat (q :: t) = lockCells q ++ flat t := by simp [flat]
    have hl : (lockCells q).length = 4 := rfl
    rw [e]
    cases i with
    | zero =>
      have : q = r := by simpa using h
      subst this
      rw [Nat.zero_mul, Nat.zero_add, List.getElem?_append_left (by omega)]
    | succ i =>
      rw [List.getElem?_append_right (by omega), hl, show (i + 1) * 4 + j - 4 = i * 4 + j by omega]
      exact ih (by simpa using h)

/-- Locks that are owned read as they are. -/
theorem OwnL.reads {w : World} {base B : Nat} {v : Value} {rs : List (LockD × Value)} (h : OwnL w base v rs) (hB : w.heap.size ≤ B) : LocksR w B v (rs.map (·.1)) := by
  have hrow := h.row
  rcases hrow.2 with ⟨rfl, hn⟩ | ⟨g, cap, cur, rfl, _, hg, hle, hcm, hcs, htake⟩
  · have : rs = [] := List.eq_nil_of_length_eq_zero hn
    subst this
    exact ⟨none, 0, rfl, Nat.le_refl _, by simp, fun _ => rfl, fun h => absurd h (by simp)⟩
  · refine ⟨some ⟨g, 0, none⟩, cap, by rw [List.length_map], by rw [List.length_map]; exact hle, by rw [List.length_map]; exact h.len, (by intro h; cases h), fun _ => ⟨g, 0, rfl, ?_, fun i x hx => ?_⟩⟩
    · have := (hrow.lt g rfl).2; omega
    · rw [List.getElem?_map] at hx
      obtain ⟨r, hr, rfl⟩ := Option.map_eq_some_iff.1 hx
      have hi : i < rs.length := (List.getElem?_eq_some_iff.1 hr).1
      have key : ∀ j, j < 4 → w.cell? ⟨g, 0 + i * 4 + j, none⟩ = (lockCells r)[j]? := fun j hj => by
        rw [Nat.zero_add, hrow.cellAt (i * 4 + j) (by omega), flat_at hr j hj]
      have he := h.lines.each r (List.mem_of_getElem? hr)
      exact ⟨r.2, by simpa [lockCells] using key 0 (by omega), by simpa [lockCells] using key 1 (by omega), by simpa [lockCells] using key 2 (by omega), by simpa [lockCells] using key 3 (by omega), ownsRow_ints he.1 he.2.1 hB, he.2.2⟩

theorem OwnL.keep {w w' : World} {base : Nat} {v : Value} {rs : List (LockD × Value)} (h : OwnL w base v rs) (hr : ∀ b, v.ownBlock = some b → w'.heap[b]? = w.heap[b]?) (hk : ∀ b ∈ lineBlocks rs, w'.heap[b]? = w.heap[b]?) : OwnL w' base v rs :=
  ⟨ownsRow_keep h.row hr, h.lines.keep hk, h.apart, h.len⟩

theorem OwnL.below {w w' : World} {base : Nat} {v : Value} {rs : List (LockD × Value)} (h : OwnL w base v rs) {B : Nat} (hb : Below B w w') (hB : w.heap.size ≤ B) : OwnL w' base v rs :=
  h.keep (fun b hbk => hb.block b (by have := (h.row.lt b hbk).2; omega)) (fun b hbk => hb.block b (by have := (h.lines.lt hbk).2; omega))

theorem OwnL.mono {w : World} {base base' : Nat} {v : Value} {rs : List (LockD × Value)} (h : OwnL w base v rs) (hb : base' ≤ base) : OwnL w base' v rs :=
  ⟨ownsRow_mono h.row hb, h.lines.mono hb, h.apart, h.len⟩

/-- The value v owns the locks ls, all in blocks from base on. -/
def LocksO (w : World) (base : Nat) (v : Value) (ls : List LockD) : Prop := ∃ rs, rs.map (·.1) = ls ∧ OwnL w base v rs

theorem LocksO.reads {w : World} {base B : Nat} {v : Value} {ls : List LockD} (h : LocksO w base v ls) (hB : w.heap.size ≤ B) : LocksR w B v ls := by
  obtain ⟨rs, rfl, h⟩ := h
  exact h.reads hB

theorem LocksO.below {w w' : World} {base : Nat} {v : Value} {ls : List LockD} (h : LocksO w base v ls) {B : Nat} (hb : Below B w w') (hB : w.heap.size ≤ B) : LocksO w' base v ls := by
  obtain ⟨rs, rfl, h⟩ := h
  exact ⟨rs, rfl, h.below hb hB⟩

theorem LocksO.mono {w : World} {base base' : Nat} {v : Value} {ls : List LockD} (h : LocksO w base v ls) (hb : base' ≤ base) : LocksO w base' v ls := by
  obtain ⟨rs, rfl, h⟩ := h
  exact ⟨rs, rfl, h.mono hb⟩

end Go.Proofs.Ytbmfahgekcnkaai

namespace Go.Proofs.Ytbmfahgekcnkaai

open Go.RowKit

/-- w' is w but for blocks in S, and new ones. -/
structure Touch (w w' : World) (S : Nat → Prop) : Prop where
  os : w'.os = w.os
  tape : w'.tape = w.tape
  output : w'.output = w.output
  size : w.heap.size ≤ w'.heap.size
  block : ∀ k, k < w.heap.size → ¬ S k → w'.heap[k]? = w.heap[k]?

theorem Touch.refl (w : World) (S : Nat → Prop) : Touch w w S := ⟨rfl, rfl, rfl, Nat.le_refl _, fun _ _ _ => rfl⟩

theorem Touch.setCell {w0 w : World} {S : Nat → Prop} (h : Touch w0 w S) {a : Addr} (ha : S a.block ∨ w0.heap.size ≤ a.block) (u : Value) : Touch w0 (w.setCell a u) S :=
  ⟨h.os, h.tape, h.output, by have := h.size; simpa [World.setCell] using this, fun k hk hs => (Below.heap_setCell _ _ _ _ (by rintro rfl; rcases ha with ha | ha; exact hs ha; omega)).trans (h.block k hk hs)⟩

theorem Touch.grown {w0 w w' : World} {S : Nat → Prop} {row : Option Nat} (h : Touch w0 w S) (hg : w.grownBy w' row) (hr : ∀ k, row = some k → S k) : Touch w0 w' S :=
  ⟨hg.os.trans h.os, hg.tape.trans h.tape, hg.output.trans h.output, Nat.le_trans h.size hg.size, fun k hk hs => (hg.block k (by have := h.size; omega) (fun e => hs (hr k e.symm))).trans (h.block k hk hs)⟩

theorem Touch.of_below {w w' : World} {B : Nat} (h : Below B w w') (hB : w.heap.size ≤ B) (S : Nat → Prop) : Touch w w' S := ⟨h.os, h.tape, h.output, h.size, fun k hk _ => h.block k (by omega)⟩

theorem Touch.trans {a b c : World} {S T : Nat → Prop} (h : Touch a b S) (k : Touch b c T) (hs : ∀ i, i < a.heap.size → T i → S i) : Touch a c S :=
  ⟨k.os.trans h.os, k.tape.trans h.tape, k.output.trans h.output, Nat.le_trans h.size k.size, fun i hi hn => (k.block i (by have := h.size; omega) (fun ht => hn (hs i hi ht))).trans (h.block i hi hn)⟩

theorem Touch.below {w w' : World} {S : Nat → Prop} (h : Touch w w' S) {B : Nat} (hB : B ≤ w.heap.size) (hs : ∀ k, S k → B ≤ k) : Below B w w' :=
  ⟨h.os, h.tape, h.output, h.size, fun k hk => h.block k (by omega) (fun e => by have := hs k e; omega)⟩

theorem Touch.cell {w w' : World} {S : Nat → Prop} (h : Touch w w' S) {a : Addr} (ha : a.block < w.heap.size) (hs : ¬ S a.block) : w'.cell? a = w.cell? a := World.cell?_of_block (w := w) (h.block a.block ha hs)

theorem Touch.frozen {w w' : World} {S : Nat → Prop} (h : Touch w w' S) {a : Addr} (ha : a.block < w.heap.size) (hs : ¬ S a.block) : w'.frozen? a = w.frozen? a := World.frozen?_of_block (w := w) (h.block a.block ha hs)

theorem mid_at {p s : List (LockD × Value)} {r : LockD × Value} : (p ++ r :: s)[p.length]? = some r := by simp

section

variable {w w' : World} {base g n cap : Nat} {v : Value} {p s rs : List (LockD × Value)} {r r' : LockD × Value}

theorem OwnL.cellAt (h : OwnL w base (.slice (some ⟨g, 0, none⟩) n cap) (p ++ r :: s)) (j : Nat) (hj : j < 4) : w.cell? ⟨g, p.length * 4 + j, none⟩ = (lockCells r)[j]? := by
  have hrow := h.row
  have hn : n = (p ++ r :: s).length := by
    rcases hrow.2 with ⟨e, _⟩ | ⟨_, _, _, e, _⟩
    · cases e
    · simp only [Value.slice.injEq] at e; exact e.2.1
  subst hn
  rw [hrow.cellAt (p.length * 4 + j) (by simp; omega), flat_at mid_at j hj]

theorem OwnL.len_eq (h : OwnL w base (.slice (some ⟨g, 0, none⟩) n cap) (p ++ r :: s)) : n = (p ++ r :: s).length := by
  rcases h.row.2 with ⟨e, _⟩ | ⟨_, _, _, e, _⟩
  · cases e
  · simp only [Value.slice.injEq] at e; exact e.2.1

theorem OwnL.frozenAt (h : OwnL w base (.slice (some ⟨g, 0, none⟩) n cap) (p ++ r :: s)) (j : Nat) : w.frozen? ⟨g, j, none⟩ = false := by
  have hn := h.len_eq
  have := h.row
  rw [← hn] at this
  exact this.frozenAt j

theorem OwnL.block (h : OwnL w base (.slice (some ⟨g, 0, none⟩) n cap) (p ++ r :: s)) : base ≤ g ∧ g < w.heap.size := h.row.lt g rfl

theorem OwnL.line (h : OwnL w base v (p ++ r :: s)) : w.ownsRow base 3 1 r.2 r.1.line.length (intCells r.1.line) ∧ r.1.line.length * 8 ≤ 140737488351232 ∧ r.1.name.size ≤ 140737488351232 :=
  h.lines.each r (by simp)

end

end Go.Proofs.Ytbmfahgekcnkaai
