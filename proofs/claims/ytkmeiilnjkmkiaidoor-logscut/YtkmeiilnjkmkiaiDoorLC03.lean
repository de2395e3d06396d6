/- Rows of elements of several cells each: what a value reads as, and a row of a call's own. No program is named but for the seat's namespace; Texts as they lie in memory: what a value reads as; a row of texts of the call's own (joined by program) -/
import Derived.WalkKit
import Derived.ProofKit
import Derived.WalkLawsBesides
import Derived.Laws.Rows
import Derived.Laws.CopyOwn
import Derived.Laws.AppendOwn
import Derived.Below
import Derived.Test.YtkmeiilnjkmkiaiDoorRows
namespace Go.Proofs.YtkmeiilnjkmkiaiDoor

open Go.RowKit

theorem ghid {p : Prop} (h : p) : Hid p := h

theorem g_drewN_below (B : Nat) (w : World) (n : Nat) : Below B w (w.drewN n) := ⟨rfl, rfl, rfl, Nat.le_refl _, fun _ _ => rfl⟩

theorem gadd (b o j : Nat) : (⟨b, o, none⟩ : Addr).add j = ⟨b, o + j, none⟩ := by unfold Addr.add; split <;> simp_all

section

variable {α : Type} {c : α → List Value} {m : Nat}

end

section

variable {w w' : World} {base : Nat} {e : TypeId} {size : Nat} {v : Value} {n : Nat} {xs : List Value}

theorem grow_shape (h : w.ownsRow base e size v n xs) : ∃ ao cap, v = .slice ao n cap := by
  rcases h.2 with ⟨rfl, rfl⟩ | ⟨g, cap, cur, rfl, _⟩
  · exact ⟨none, 0, rfl⟩
  · exact ⟨_, _, rfl⟩

theorem grow_keep (h : w.ownsRow base e size v n xs) (hk : ∀ b, v.ownBlock = some b → w'.heap[b]? = w.heap[b]?) : w'.ownsRow base e size v n xs := by
  obtain ⟨h1, h2⟩ := h
  refine ⟨h1, ?_⟩
  rcases h2 with h2 | ⟨g, cap, cur, rfl, hg, hh, r⟩
  · exact Or.inl h2
  · exact Or.inr ⟨g, cap, cur, rfl, hg, by rw [hk g rfl]; exact hh, r⟩

theorem grow_base {base' : Nat} (h : w.ownsRow base e size v n xs) (hk : ∀ b, v.ownBlock = some b → base' ≤ b) : w.ownsRow base' e size v n xs := by
  obtain ⟨h1, h2⟩ := h
  refine ⟨h1, ?_⟩
  rcases h2 with h2 | ⟨g, cap, cur, rfl, hg, hh, r⟩
  · exact Or.inl h2
  · exact Or.inr ⟨g, cap, cur, rfl, hk g rfl, hh, r⟩

theorem grow_mono {base' : Nat} (h : w.ownsRow base e size v n xs) (hb : base' ≤ base) : w.ownsRow base' e size v n xs :=
  grow_base h fun b hbk => Nat.le_trans hb (h.lt b hbk).1

theorem grow_below (h : w.ownsRow base e size v n xs) {B : Nat} (hb : Below B w w') (hB : w.heap.size ≤ B) : w'.ownsRow base e size v n xs :=
  grow_keep h fun b hbk => hb.block b (by have := (h.lt b hbk).2; omega)

/-- A row with something in it lies in a block. -/
theorem grow_some (h : w.ownsRow base e size v n xs) (hn : 0 < n) : ∃ g cap, v = .slice (some ⟨g, 0, none⟩) n cap ∧ base ≤ g ∧ g < w.heap.size ∧ n ≤ cap := by
  have hlt := h.lt
  rcases h.2 with ⟨rfl, rfl⟩ | ⟨g, cap, cur, rfl, hg, hh, hle, _⟩
  · omega
  · exact ⟨g, cap, rfl, hg, (hlt g rfl).2, hle⟩

end

/-- w' is w but for blocks in S, and new ones. -/
structure TouchG (w w' : World) (S : Nat → Prop) : Prop where
  os : w'.os = w.os
  tape : w'.tape = w.tape
  output : w'.output = w.output
  size : w.heap.size ≤ w'.heap.size
  block : ∀ k, k < w.heap.size → ¬ S k → w'.heap[k]? = w.heap[k]?

theorem TouchG.refl (w : World) (S : Nat → Prop) : TouchG w w S := ⟨rfl, rfl, rfl, Nat.le_refl _, fun _ _ _ => rfl⟩

theorem TouchG.setCell {w0 w : World} {S : Nat → Prop} (h : TouchG w0 w S) {a : Addr} (ha : S a.block ∨ w0.heap.size ≤ a.block) (u : Value) : TouchG w0 (w.setCell a u) S :=
  ⟨h.os, h.tape, h.output, by have := h.size; simpa [World.setCell] using this, fun k hk hs => (Below.heap_setCell _ _ _ _ (by rintro rfl; rcases ha with ha | ha; exact hs ha; omega)).trans (h.block k hk hs)⟩

theorem TouchG.grown {w0 w w' : World} {S : Nat → Prop} {row : Option Nat} (h : TouchG w0 w S) (hg : w.grownBy w' row) (hr : ∀ k, row = some k → S k ∨ w0.heap.size ≤ k) : TouchG w0 w' S :=
  ⟨hg.os.trans h.os, hg.tape.trans h.tape, hg.output.trans h.output, Nat.le_trans h.size hg.size, fun k hk hs => (hg.block k (by have := h.size; omega) (fun e => by rcases hr k e.symm with h' | h'; exact hs h'; omega)).trans (h.block k hk hs)⟩

theorem TouchG.of_below {w w' : World} {B : Nat} (h : Below B w w') (hB : w.heap.size ≤ B) (S : Nat → Prop) : TouchG w w' S := ⟨h.os, h.tape, h.output, h.size, fun k hk _ => h.block k (by omega)⟩

theorem TouchG.trans {a b c : World} {S T : Nat → Prop} (h : TouchG a b S) (k : TouchG b c T) (hs : ∀ i, i < a.heap.size → T i → S i) : TouchG a c S :=
  ⟨k.os.trans h.os, k.tape.trans h.tape, k.output.trans h.output, Nat.le_trans h.size k.size, fun i hi hn => (k.block i (by have := h.size; omega) (fun ht => hn (hs i hi ht))).trans (h.block i hi hn)⟩

theorem TouchG.below {w w' : World} {S : Nat → Prop} (h : TouchG w w' S) {B : Nat} (hB : B ≤ w.heap.size) (hs : ∀ k, S k → B ≤ k) : Below B w w' :=
  ⟨h.os, h.tape, h.output, h.size, fun k hk => h.block k (by omega) (fun e => by have := hs k e; omega)⟩

theorem TouchG.drew {w0 w : World} {S : Nat → Prop} (h : TouchG w0 w S) (n : Nat) : TouchG w0 (w.drewN n) S := ⟨h.os, h.tape, h.output, h.size, h.block⟩

section

variable {P : Program}

end

end Go.Proofs.YtkmeiilnjkmkiaiDoor

namespace Go.Proofs.YtkmeiilnjkmkiaiDoor

open Go.RowKit

/-- The value v reads in w as the texts ts; its memory lies below block B. -/
def TextsR (w : World) (B : Nat) (v : Value) (ts : List ByteArray) : Prop :=
  ∃ ao cap, v = .slice ao ts.length cap ∧ ts.length ≤ cap ∧ ts.length * 16 ≤ 140737488351232 ∧ (ao = none → cap = 0) ∧
    (0 < ts.length → ∃ b off, ao = some ⟨b, off, none⟩ ∧ b < B ∧ ∀ (i : Nat) (x : ByteArray), ts[i]? = some x → w.cell? ⟨b, off + i, none⟩ = some (.string x) ∧ x.size ≤ 140737488351232)

theorem TextsR.below {w w' : World} {B : Nat} {v : Value} {ts : List ByteArray} (h : TextsR w B v ts) {B' : Nat} (hb : Below B' w w') (hB : B ≤ B') : TextsR w' B v ts := by
  obtain ⟨ao, cap, rfl, h1, h2, h3, h4⟩ := h
  refine ⟨ao, cap, rfl, h1, h2, h3, fun hp => ?_⟩
  obtain ⟨b, off, rfl, hlt, hc⟩ := h4 hp
  exact ⟨b, off, rfl, hlt, fun i x hx => ⟨(hb.cell (p := ⟨b, off + i, none⟩) (by simp; omega)).trans (hc i x hx).1, (hc i x hx).2⟩⟩

theorem TextsR.mono {w : World} {B B' : Nat} {v : Value} {ts : List ByteArray} (h : TextsR w B v ts) (hB : B ≤ B') : TextsR w B' v ts := by
  obtain ⟨ao, cap, rfl, h1, h2, h3, h4⟩ := h
  refine ⟨ao, cap, rfl, h1, h2, h3, fun hp => ?_⟩
  obtain ⟨b, off, rfl, hlt, hc⟩ := h4 hp
  exact ⟨b, off, rfl, by omega, hc⟩

theorem TextsR.len {w : World} {B : Nat} {v : Value} {ts : List ByteArray} (h : TextsR w B v ts) : ts.length * 16 ≤ 140737488351232 := by
  obtain ⟨_, _, _, _, h2, _⟩ := h
  exact h2

theorem TextsR.slice {w : World} {B : Nat} {v : Value} {ts : List ByteArray} (h : TextsR w B v ts) : ∃ ao cap, v = .slice ao ts.length cap := by
  obtain ⟨ao, cap, rfl, -⟩ := h
  exact ⟨ao, cap, rfl⟩

theorem TextsR.nil (w : World) (B : Nat) : TextsR w B (.slice none 0 0) [] := ⟨none, 0, rfl, Nat.le_refl _, by simp, fun _ => rfl, fun h => absurd h (by simp)⟩

/-- The cells of texts. -/
def textCells (ts : List ByteArray) : List Value := ts.map Value.string

theorem textCells_one (ts : List ByteArray) : ∀ v ∈ textCells ts, v.oneCell' = true := by
  intro v hv
  obtain ⟨t, -, rfl⟩ := List.mem_map.1 hv
  rfl

theorem textCells_snoc (ts : List ByteArray) (t : ByteArray) : textCells (ts ++ [t]) = textCells ts ++ [.string t] := by simp [textCells]

/-- Texts that are owned read as they are. -/
theorem texts_reads {w : World} {base B : Nat} {v : Value} {ts : List ByteArray} (h : w.ownsRow base 9 1 v ts.length (textCells ts)) (hm : ∀ t ∈ ts, t.size ≤ 140737488351232) (hl : ts.length * 16 ≤ 140737488351232) (hB : w.heap.size ≤ B) : TextsR w B v ts := by
  rcases h.2 with ⟨rfl, hn⟩ | ⟨g, cap, cur, rfl, _, hg, hle, hcm, hcs, htake⟩
  · have : ts = [] := List.eq_nil_of_length_eq_zero hn
    subst this
    exact TextsR.nil _ _
  · refine ⟨some ⟨g, 0, none⟩, cap, rfl, hle, hl, (by intro h; cases h), fun _ => ⟨g, 0, rfl, ?_, fun i x hx => ⟨?_, hm x (List.mem_of_getElem? hx)⟩⟩⟩
    · have := (h.lt g rfl).2; omega
    · have hi : i < ts.length := (List.getElem?_eq_some_iff.1 hx).1
      rw [Nat.zero_add, h.cellAt i (by omega)]
      simp [textCells, hx]

theorem Tryd.infoText : (Tryd.prog.info? 9).map (fun i => (i.zero, i.size, i.bytes)) = some (some (.string ⟨#[]⟩), 1, 16) := by kernel_rfl

end Go.Proofs.YtkmeiilnjkmkiaiDoor
