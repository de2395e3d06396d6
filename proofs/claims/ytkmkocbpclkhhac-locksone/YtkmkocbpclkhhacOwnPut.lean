/- One lock of a row put anew. -/
import Derived.Test.YtkmkocbpclkhhacOwnMem
namespace Go.Proofs.Ytkmkocbpclkhhac
open Go.RowKit

/-- w' is w but for blocks in S, and new ones. -/
structure Touch (w w' : World) (S : Nat → Prop) : Prop where
  os : w'.os = w.os
  tape : w'.tape = w.tape
  output : w'.output = w.output
  size : w.heap.size ≤ w'.heap.size
  block : ∀ k, k < w.heap.size → ¬ S k → w'.heap[k]? = w.heap[k]?

/-- The blocks of a row and its lines. -/
def OwnB (g : Nat) (rs : List (LockD × Value)) (k : Nat) : Prop := k = g ∨ k ∈ lineBlocks rs

theorem Touch.refl (w : World) (S : Nat → Prop) : Touch w w S := ⟨rfl, rfl, rfl, Nat.le_refl _, fun _ _ _ => rfl⟩

theorem Touch.setCell {w0 w : World} {S : Nat → Prop} (h : Touch w0 w S) {a : Addr} (ha : S a.block ∨ w0.heap.size ≤ a.block) (u : Value) : Touch w0 (w.setCell a u) S :=
  ⟨h.os, h.tape, h.output, by have := h.size; simpa [World.setCell] using this, fun k hk hs => (Below.heap_setCell _ _ _ _ (by rintro rfl; rcases ha with ha | ha; exact hs ha; omega)).trans (h.block k hk hs)⟩

theorem Touch.grown {w0 w w' : World} {S : Nat → Prop} {row : Option Nat} (h : Touch w0 w S) (hg : w.grownBy w' row) (hr : ∀ k, row = some k → S k) : Touch w0 w' S :=
  ⟨hg.os.trans h.os, hg.tape.trans h.tape, hg.output.trans h.output, Nat.le_trans h.size hg.size, fun k hk hs => (hg.block k (by have := h.size; omega) (fun e => hs (hr k e.symm))).trans (h.block k hk hs)⟩

theorem Touch.of_below {w w' : World} {B : Nat} (h : Below B w w') (hB : w.heap.size ≤ B) (S : Nat → Prop) : Touch w w' S := ⟨h.os, h.tape, h.output, h.size, fun k hk _ => h.block k (by omega)⟩

theorem Touch.trans {a b c : World} {S T : Nat → Prop} (h : Touch a b S) (k : Touch b c T) (hs : ∀ i, i < a.heap.size → T i → S i) : Touch a c S :=
  ⟨k.os.trans h.os, k.tape.trans h.tape, k.output.trans h.output, Nat.le_trans h.size k.size, fun i hi hn => (k.block i (by have := h.size; omega) (fun ht => hn (hs i hi ht))).trans (h.block i hi hn)⟩

theorem Touch.below {w w' : World} {S : Nat → Prop} (h : Touch w w' S) {B : Nat} (hB : B ≤ w.heap.size) (hs : ∀ k, S k → B ≤ k) : Below B w w' :=
  ⟨h.os, h.tape, h.output, h.size, fun k hk => h.block k (by omega) (fun e => by have := hs k e; omega)⟩

theorem Touch.cell {w w' : World} {S : Nat → Prop} (h : Touch w w' S) {a : Addr} (ha : a.block < w.heap.size) (hs : ¬ S a.block) : w'.cell? a = w.cell? a := World.cell?_of_block (w := w) (h.block a.block ha hs)
theorem Touch.frozen {w w' : World} {S : Nat → Prop} (h : Touch w w' S) {a : Addr} (ha : a.block < w.heap.size) (hs : ¬ S a.block) : w'.frozen? a = w.frozen? a := World.frozen?_of_block (w := w) (h.block a.block ha hs)

theorem flat_mid (p s : List (LockD × Value)) (r : LockD × Value) : flat (p ++ r :: s) = flat p ++ (lockCells r ++ flat s) := by simp [flat]

theorem lineBlocks_mid (p s : List (LockD × Value)) (r : LockD × Value) : lineBlocks (p ++ r :: s) = lineBlocks p ++ (r.2.ownBlock.toList ++ lineBlocks s) := by simp [lineBlocks]

theorem mid_at {p s : List (LockD × Value)} {r : LockD × Value} : (p ++ r :: s)[p.length]? = some r := by simp

theorem split_at {rs : List (LockD × Value)} {i : Nat} {r : LockD × Value} (h : rs[i]? = some r) : ∃ p s, rs = p ++ r :: s ∧ p.length = i := by
  obtain ⟨hi, he⟩ := List.getElem?_eq_some_iff.1 h
  refine ⟨rs.take i, rs.drop (i + 1), ?_, by rw [List.length_take]; omega⟩
  rw [← he, ← List.drop_eq_getElem_cons hi, List.take_append_drop]

section
variable {w w' : World} {base g n cap : Nat} {v : Value} {p s rs : List (LockD × Value)} {r r' : LockD × Value}

theorem OwnL.cellAt (h : OwnL w base (.slice (some ⟨g, 0, none⟩) n cap) (p ++ r :: s)) (j : Nat) (hj : j < 4) : w.cell? ⟨g, p.length * 4 + j, none⟩ = (lockCells r)[j]? := by
  have hrow := h.row
  have hn : n = (p ++ r :: s).length := by
    rcases hrow.2 with ⟨e, _⟩ | ⟨_, _, _, e, _⟩
    · cases e
    · simp only [Value.slice.injEq] at e; exact e.2.1
  subst hn
  rw [hrow.cellAt (p.length * 4 + j) (by simp; omega), flat_at mid_at j hj]

theorem OwnL.len_eq (h : OwnL w base (.slice (some ⟨g, 0, none⟩) n cap) (p ++ r :: s)) : n = (p ++ r :: s).length := by
  rcases h.row.2 with ⟨e, _⟩ | ⟨_, _, _, e, _⟩
  · cases e
  · simp only [Value.slice.injEq] at e; exact e.2.1

theorem OwnL.frozenAt (h : OwnL w base (.slice (some ⟨g, 0, none⟩) n cap) (p ++ r :: s)) (j : Nat) : w.frozen? ⟨g, j, none⟩ = false := by
  have hn := h.len_eq
  have := h.row
  rw [← hn] at this
  exact this.frozenAt j

theorem OwnL.block (h : OwnL w base (.slice (some ⟨g, 0, none⟩) n cap) (p ++ r :: s)) : base ≤ g ∧ g < w.heap.size := h.row.lt g rfl

theorem OwnL.line (h : OwnL w base v (p ++ r :: s)) : w.ownsRow base 3 1 r.2 r.1.line.length (intCells r.1.line) ∧ r.1.line.length * 8 ≤ 140737488351232 ∧ r.1.name.size ≤ 140737488351232 :=
  h.lines.each r (by simp)

theorem OwnL.lineNe (h : OwnL w base (.slice (some ⟨g, 0, none⟩) n cap) (p ++ r :: s)) {b : Nat} (hb : r.2.ownBlock = some b) : b ≠ g := by
  intro e
  subst e
  exact h.apart b (mem_lineBlocks.2 ⟨r, by simp, hb⟩) rfl

/-- The row put anew at one lock, the other lines left alone. -/
theorem OwnL.put (h : OwnL w base v (p ++ r :: s)) (hrow : w'.ownsRow base 47 4 v (p ++ r' :: s).length (flat (p ++ r' :: s)))
    (hr : w'.ownsRow base 3 1 r'.2 r'.1.line.length (intCells r'.1.line)) (hl : r'.1.line.length * 8 ≤ 140737488351232) (hn : r'.1.name.size ≤ 140737488351232)
    (hk : ∀ b ∈ lineBlocks p ++ lineBlocks s, w'.heap[b]? = w.heap[b]?)
    (hnew : ∀ b, r'.2.ownBlock = some b → r.2.ownBlock = some b ∨ w.heap.size ≤ b) : OwnL w' base v (p ++ r' :: s) := by
  have hnd := h.lines.nodup
  rw [lineBlocks_mid] at hnd
  have hlt : ∀ b ∈ lineBlocks (p ++ r :: s), b < w.heap.size := fun b hb => (h.lines.lt hb).2
  rw [lineBlocks_mid] at hlt
  have hfresh : ∀ b, r'.2.ownBlock = some b → b ∉ lineBlocks p ∧ b ∉ lineBlocks s := by
    intro b hb
    rcases hnew b hb with e | e
    · rw [e] at hnd
      simp only [Option.toList_some, List.singleton_append] at hnd
      have h1 := List.nodup_append.1 hnd
      exact ⟨fun hm => h1.2.2 b hm b (by simp) rfl, (List.nodup_cons.1 h1.2.1).1⟩
    · exact ⟨fun hm => absurd (hlt b (by simp [hm])) (by omega), fun hm => absurd (hlt b (by simp [hm])) (by omega)⟩
  refine ⟨hrow, ⟨fun q hq => ?_, ?_⟩, ?_, ?_⟩
  · rcases List.mem_append.1 hq with hq | hq
    · have he := h.lines.each q (by simp [hq])
      exact ⟨ownsRow_keep he.1 fun b hb => hk b (List.mem_append_left _ (mem_lineBlocks.2 ⟨q, hq, hb⟩)), he.2⟩
    · rcases List.mem_cons.1 hq with rfl | hq
      · exact ⟨hr, hl, hn⟩
      · have he := h.lines.each q (by simp [hq])
        exact ⟨ownsRow_keep he.1 fun b hb => hk b (List.mem_append_right _ (mem_lineBlocks.2 ⟨q, hq, hb⟩)), he.2⟩
  · rw [lineBlocks_mid]
    have h1 := List.nodup_append.1 hnd
    have h2 := List.nodup_append.1 h1.2.1
    refine List.nodup_append.2 ⟨h1.1, List.nodup_append.2 ⟨?_, h2.2.1, ?_⟩, ?_⟩
    · cases r'.2.ownBlock <;> simp
    · intro a ha b hb hab
      subst hab
      exact (hfresh a (by simpa using ha)).2 hb
    · intro a ha b hb hab
      subst hab
      rcases List.mem_append.1 hb with hb | hb
      · exact (hfresh a (by simpa using hb)).1 ha
      · exact h1.2.2 a ha a (List.mem_append_right _ hb) rfl
  · intro b hb e
    rw [lineBlocks_mid] at hb
    rcases List.mem_append.1 hb with hb | hb
    · exact h.apart b (by rw [lineBlocks_mid]; exact List.mem_append_left _ hb) e
    · rcases List.mem_append.1 hb with hb | hb
      · rcases hnew b (by simpa using hb) with e2 | e2
        · exact h.apart b (by rw [lineBlocks_mid]; simp [e2]) e
        · have := (h.row.lt b e).2
          omega
      · exact h.apart b (by rw [lineBlocks_mid]; exact List.mem_append_right _ (List.mem_append_right _ hb)) e
  · have := h.len
    simpa using this

theorem set_mid (p s : List (LockD × Value)) (r : LockD × Value) (j : Nat) (u : Value) (hj : j < 4) : (flat (p ++ r :: s)).set (p.length * 4 + j) u = flat p ++ ((lockCells r).set j u ++ flat s) := by
  have hl : (lockCells r).length = 4 := rfl
  rw [flat_mid, List.set_append_right _ _ (by rw [flat_length]; omega), flat_length, show p.length * 4 + j - p.length * 4 = j by omega, List.set_append_left _ _ (by omega)]

/-- One cell of a lock put anew: the row. -/
theorem row_set (h : w.ownsRow base 47 4 (.slice (some ⟨g, 0, none⟩) n cap) (p ++ r :: s).length (flat (p ++ r :: s))) (hn : n = (p ++ r :: s).length) (j : Nat) (u : Value) (hj : j < 4) (hr : (lockCells r).set j u = lockCells r') :
    (w.setCell ⟨g, p.length * 4 + j, none⟩ u).ownsRow base 47 4 (.slice (some ⟨g, 0, none⟩) n cap) (p ++ r' :: s).length (flat (p ++ r' :: s)) := by
  subst hn
  have := (h.stored (p.length * 4 + j) u).1
  rw [set_mid p s r j u hj, hr, ← flat_mid] at this
  have e : (p ++ r' :: s).length = (p ++ r :: s).length := by simp
  rw [e]
  exact this

/-- The holder put anew. -/
theorem OwnL.setHolder (h : OwnL w base (.slice (some ⟨g, 0, none⟩) n cap) (p ++ r :: s)) (a : Int) :
    OwnL (w.setCell ⟨g, p.length * 4 + 1, none⟩ (.int .i64 a)) base (.slice (some ⟨g, 0, none⟩) n cap) (p ++ ({ r.1 with holder := a }, r.2) :: s) := by
  have hl := h.line
  have key : ∀ b, b ≠ g → (w.setCell ⟨g, p.length * 4 + 1, none⟩ (.int .i64 a)).heap[b]? = w.heap[b]? := fun b hb => heap_setCell_other _ _ _ _ (by simpa using hb)
  refine h.put (row_set h.row h.len_eq 1 _ (by omega) rfl) (ownsRow_keep hl.1 fun b hb => key b (h.lineNe hb)) hl.2.1 hl.2.2 (fun b hb => key b ?_) (fun b hb => Or.inl hb)
  intro e
  exact h.apart b (by rw [lineBlocks_mid]; rcases List.mem_append.1 hb with hb | hb <;> simp [hb]) (by rw [e]; rfl)

/-- The fence put anew. -/
theorem OwnL.setFence (h : OwnL w base (.slice (some ⟨g, 0, none⟩) n cap) (p ++ r :: s)) (a : Int) :
    OwnL (w.setCell ⟨g, p.length * 4 + 2, none⟩ (.int .i64 a)) base (.slice (some ⟨g, 0, none⟩) n cap) (p ++ ({ r.1 with fence := a }, r.2) :: s) := by
  have hl := h.line
  have key : ∀ b, b ≠ g → (w.setCell ⟨g, p.length * 4 + 2, none⟩ (.int .i64 a)).heap[b]? = w.heap[b]? := fun b hb => heap_setCell_other _ _ _ _ (by simpa using hb)
  refine h.put (row_set h.row h.len_eq 2 _ (by omega) rfl) (ownsRow_keep hl.1 fun b hb => key b (h.lineNe hb)) hl.2.1 hl.2.2 (fun b hb => key b ?_) (fun b hb => Or.inl hb)
  intro e
  exact h.apart b (by rw [lineBlocks_mid]; rcases List.mem_append.1 hb with hb | hb <;> simp [hb]) (by rw [e]; rfl)

/-- The line put anew, behind a step that wrote the old line's block alone, and new ones. -/
theorem OwnL.setLine {w1 : World} {lv : Value} {xs : List Int} (h : OwnL w base (.slice (some ⟨g, 0, none⟩) n cap) (p ++ r :: s)) (hg : w.grownBy w1 r.2.ownBlock) (ho : w1.ownsRow base 3 1 lv xs.length (intCells xs)) (hl : xs.length * 8 ≤ 140737488351232)
    (hnew : ∀ b, lv.ownBlock = some b → r.2.ownBlock = some b ∨ w.heap.size ≤ b) :
    OwnL (w1.setCell ⟨g, p.length * 4 + 3, none⟩ lv) base (.slice (some ⟨g, 0, none⟩) n cap) (p ++ ({ r.1 with line := xs }, lv) :: s) := by
  have hgb := h.block
  have hln := h.line
  have hrne : r.2.ownBlock ≠ some g := fun e => h.lineNe e rfl
  have hgrow : w1.heap[g]? = w.heap[g]? := hg.block g hgb.2 (Ne.symm hrne)
  have key : ∀ b, b ≠ g → (w1.setCell ⟨g, p.length * 4 + 3, none⟩ lv).heap[b]? = w1.heap[b]? := fun b hb => heap_setCell_other _ _ _ _ (by simpa using hb)
  refine h.put (row_set (ownsRow_keep h.row fun b hb => ?_) h.len_eq 3 _ (by omega) rfl) (ownsRow_keep ho fun b hb => key b ?_) hl hln.2.2 (fun b hb => ?_) hnew
  · have : g = b := by simpa [Value.ownBlock] using hb
    rw [← this]; exact hgrow
  · rcases hnew b hb with e | e
    · exact h.lineNe e
    · omega
  · have hbm : b ∈ lineBlocks (p ++ r :: s) := by rw [lineBlocks_mid]; rcases List.mem_append.1 hb with hb | hb <;> simp [hb]
    rw [key b (fun e => h.apart b hbm (by rw [e]; rfl))]
    refine hg.block b (h.lines.lt hbm).2 fun e => ?_
    have hnd := h.lines.nodup
    rw [lineBlocks_mid, ← e] at hnd
    simp only [Option.toList_some, List.singleton_append] at hnd
    have h1 := List.nodup_append.1 hnd
    rcases List.mem_append.1 hb with hb | hb
    · exact h1.2.2 b hb b (by simp) rfl
    · exact (List.nodup_cons.1 h1.2.1).1 hb

theorem OwnL.ownB (h : OwnL w base (.slice (some ⟨g, 0, none⟩) n cap) rs) : ∀ k, OwnB g rs k → base ≤ k ∧ k < w.heap.size := by
  rintro k (rfl | hk)
  · exact h.row.lt k rfl
  · exact h.lines.lt hk
end
end Go.Proofs.Ytkmkocbpclkhhac
