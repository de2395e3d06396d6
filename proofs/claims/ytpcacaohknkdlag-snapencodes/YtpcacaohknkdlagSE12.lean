/- One lock of a row put anew (joined by program) -/
import Derived.Test.YtpcacaohknkdlagSE11
namespace Go.Proofs.Ytpcacaohknkdlag

open Go.RowKit

/-- w' is w but for blocks in S, and new ones. -/
structure Touch (w w' : World) (S : Nat → Prop) : Prop where
  os : w'.os = w.os
  tape : w'.tape = w.tape
  output : w'.output = w.output
  size : w.heap.size ≤ w'.heap.size
  block : ∀ k, k < w.heap.size → ¬ S k → w'.heap[k]? = w.heap[k]?

theorem Touch.refl (w : World) (S : Nat → Prop) : Touch w w S := ⟨rfl, rfl, rfl, Nat.le_refl _, fun _ _ _ => rfl⟩

theorem Touch.setCell {w0 w : World} {S : Nat → Prop} (h : Touch w0 w S) {a : Addr} (ha : S a.block ∨ w0.heap.size ≤ a.block) (u : Value) : Touch w0 (w.setCell a u) S :=
  ⟨h.os, h.tape, h.output, by have := h.size; simpa [World.setCell] using this, fun k hk hs => (Below.heap_setCell _ _ _ _ (by rintro rfl; rcases ha with ha | ha; exact hs ha; omega)).trans (h.block k hk hs)⟩

theorem Touch.grown {w0 w w' : World} {S : Nat → Prop} {row : Option Nat} (h : Touch w0 w S) (hg : w.grownBy w' row) (hr : ∀ k, row = some k → S k) : Touch w0 w' S :=
  ⟨hg.os.trans h.os, hg.tape.trans h.tape, hg.output.trans h.output, Nat.le_trans h.size hg.size, fun k hk hs => (hg.block k (by have := h.size; omega) (fun e => hs (hr k e.symm))).trans (h.block k hk hs)⟩

theorem Touch.trans {a b c : World} {S T : Nat → Prop} (h : Touch a b S) (k : Touch b c T) (hs : ∀ i, i < a.heap.size → T i → S i) : Touch a c S :=
  ⟨k.os.trans h.os, k.tape.trans h.tape, k.output.trans h.output, Nat.le_trans h.size k.size, fun i hi hn => (k.block i (by have := h.size; omega) (fun ht => hn (hs i hi ht))).trans (h.block i hi hn)⟩

theorem Touch.below {w w' : World} {S : Nat → Prop} (h : Touch w w' S) {B : Nat} (hB : B ≤ w.heap.size) (hs : ∀ k, S k → B ≤ k) : Below B w w' :=
  ⟨h.os, h.tape, h.output, h.size, fun k hk => h.block k (by omega) (fun e => by have := hs k e; omega)⟩

theorem Touch.cell {w w' : World} {S : Nat → Prop} (h : Touch w w' S) {a : Addr} (ha : a.block < w.heap.size) (hs : ¬ S a.block) : w'.cell? a = w.cell? a := World.cell?_of_block (w := w) (h.block a.block ha hs)

theorem Touch.frozen {w w' : World} {S : Nat → Prop} (h : Touch w w' S) {a : Addr} (ha : a.block < w.heap.size) (hs : ¬ S a.block) : w'.frozen? a = w.frozen? a := World.frozen?_of_block (w := w) (h.block a.block ha hs)

theorem lineBlocks_mid (p s : List (LockD × Value)) (r : LockD × Value) : lineBlocks (p ++ r :: s) = lineBlocks p ++ (r.2.ownBlock.toList ++ lineBlocks s) := by simp [lineBlocks]

section

variable {w w' : World} {base g n cap : Nat} {v : Value} {p s rs : List (LockD × Value)} {r r' : LockD × Value}

theorem OwnL.block (h : OwnL w base (.slice (some ⟨g, 0, none⟩) n cap) (p ++ r :: s)) : base ≤ g ∧ g < w.heap.size := h.row.lt g rfl

theorem OwnL.line (h : OwnL w base v (p ++ r :: s)) : w.ownsRow base 3 1 r.2 r.1.line.length (intCells r.1.line) ∧ r.1.line.length * 8 ≤ 140737488351232 ∧ r.1.name.size ≤ 140737488351232 :=
  h.lines.each r (by simp)

/-- The row put anew at one lock, the other lines left alone. -/
theorem OwnL.put (h : OwnL w base v (p ++ r :: s)) (hrow : w'.ownsRow base 55 4 v (p ++ r' :: s).length (flat (p ++ r' :: s)))
    (hr : w'.ownsRow base 3 1 r'.2 r'.1.line.length (intCells r'.1.line)) (hl : r'.1.line.length * 8 ≤ 140737488351232) (hn : r'.1.name.size ≤ 140737488351232)
    (hk : ∀ b ∈ lineBlocks p ++ lineBlocks s, w'.heap[b]? = w.heap[b]?)
    (hnew : ∀ b, r'.2.ownBlock = some b → r.2.ownBlock = some b ∨ w.heap.size ≤ b) : OwnL w' base v (p ++ r' :: s) := by
  have hnd := h.lines.nodup
  rw [lineBlocks_mid] at hnd
  have hlt : ∀ b ∈ lineBlocks (p ++ r :: s), b < w.heap.size := fun b hb => (h.lines.lt hb).2
  rw [lineBlocks_mid] at hlt
  have hfresh : ∀ b, r'.2.ownBlock = some b → b ∉ lineBlocks p ∧ b ∉ lineBlocks s := by
    intro b hb
    rcases hnew b hb with e | e
    · rw [e] at hnd
      simp only [Option.toList_some, List.singleton_append] at hnd
      have h1 := List.nodup_append.1 hnd
      exact ⟨fun hm => h1.2.2 b hm b (by simp) rfl, (List.nodup_cons.1 h1.2.1).1⟩
    · exact ⟨fun hm => absurd (hlt b (by simp [hm])) (by omega), fun hm => absurd (hlt b (by simp [hm])) (by omega)⟩
  refine ⟨hrow, ⟨fun q hq => ?_, ?_⟩, ?_, ?_⟩
  · rcases List.mem_append.1 hq with hq | hq
    · have he := h.lines.each q (by simp [hq])
      exact ⟨ownsRow_keep he.1 fun b hb => hk b (List.mem_append_left _ (mem_lineBlocks.2 ⟨q, hq, hb⟩)), he.2⟩
    · rcases List.mem_cons.1 hq with rfl | hq
      · exact ⟨hr, hl, hn⟩
      · have he := h.lines.each q (by simp [hq])
        exact ⟨ownsRow_keep he.1 fun b hb => hk b (List.mem_append_right _ (mem_lineBlocks.2 ⟨q, hq, hb⟩)), he.2⟩
  · rw [lineBlocks_mid]
    have h1 := List.nodup_append.1 hnd
    have h2 := List.nodup_append.1 h1.2.1
    refine List.nodup_append.2 ⟨h1.1, List.nodup_append.2 ⟨?_, h2.2.1, ?_⟩, ?_⟩
    · cases r'.2.ownBlock <;> simp
    · intro a ha b hb hab
      subst hab
      exact (hfresh a (by simpa using ha)).2 hb
    · intro a ha b hb hab
      subst hab
      rcases List.mem_append.1 hb with hb | hb
      · exact (hfresh a (by simpa using hb)).1 ha
      · exact h1.2.2 a ha a (List.mem_append_right _ hb) rfl
  · intro b hb e
    rw [lineBlocks_mid] at hb
    rcases List.mem_append.1 hb with hb | hb
    · exact h.apart b (by rw [lineBlocks_mid]; exact List.mem_append_left _ hb) e
    · rcases List.mem_append.1 hb with hb | hb
      · rcases hnew b (by simpa using hb) with e2 | e2
        · exact h.apart b (by rw [lineBlocks_mid]; simp [e2]) e
        · have := (h.row.lt b e).2
          omega
      · exact h.apart b (by rw [lineBlocks_mid]; exact List.mem_append_right _ (List.mem_append_right _ hb)) e
  · have := h.len
    simpa using this

end

end Go.Proofs.Ytpcacaohknkdlag
