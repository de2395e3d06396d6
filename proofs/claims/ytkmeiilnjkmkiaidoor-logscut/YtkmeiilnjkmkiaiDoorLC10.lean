/- The reader's methods: number, text, end; The reader's methods by one contract each, and call (joined by program) -/
import Derived.BigRegion
import Derived.Test.YtkmeiilnjkmkiaiDoorLC08
import Derived.Test.YtkmeiilnjkmkiaiDoorLC09
namespace Go.Proofs.YtkmeiilnjkmkiaiDoor

open Go.RowKit

/-- The reader at block rb has what is left, and what was wrong. -/
def IsRd (rb : Nat) (s : ByteArray) (e : Int) (w : World) : Prop := w.heap[rb]? = some (.cells #[.string s, .int .i64 e] 78 (0, 0))

/-- The command at block cb. -/
def IsCm (cb : Nat) (x : CmdD) (w : World) : Prop := w.heap[cb]? = some (.cells #[.int .i64 x.kind, .int .i64 x.client, .int .i64 x.session, .int .i64 x.seq, .int .i64 x.acked, .int .i64 x.ok, .string x.a, .string x.b, .int .i64 x.n] 45 (0, 0))

theorem rd_stay {r : ByteArray × Int} (h : r.2 ≠ 0) : stepN r = (0, r.1, r.2) := if_neg h

theorem rt_stay {r : ByteArray × Int} (h : r.2 ≠ 0) : stepT r = (⟨#[]⟩, r.1, r.2) := if_neg h

set_option maxHeartbeats 800000 in
theorem rdNumber_wrong (rb cb off : Nat) (s : ByteArray) (e : Int) (w : World) (hr : IsRd rb s e w) (he : e ≠ 0) :
    Calls Tryd.prog 44 #[.pointer (some ⟨rb, 0, none⟩), .pointer (some ⟨cb, off, none⟩)] w fun x w' => x = .returned (.tuple #[]) ∧ w' = w := by
  have s1 : w.cell? ⟨rb, 1, none⟩ = some (.int .i64 e) := cell_of_row w rb 1 _ _ _ hr
  have heb : (e == 0) = false := by simpa using he
  clear hr he
  go_enter Tryd.func44, Tryd.ntmps44
  go_wp2
  go_end0
  exact ⟨rfl, rfl⟩

set_option maxHeartbeats 1600000 in
theorem rdNumber_ok (rb cb off : Nat) (s : ByteArray) (old : Value) (cs : Array Value) (w : World) (hs : s.size ≤ 140737488351232) (hr : IsRd rb s 0 w) (hne : cb ≠ rb) (hc : w.heap[cb]? = some (.cells cs 45 (0, 0))) (ho : cs[off]? = some old) :
    Calls Tryd.prog 44 #[.pointer (some ⟨rb, 0, none⟩), .pointer (some ⟨cb, off, none⟩)] w fun x w' => x = .returned (.tuple #[]) ∧ ∃ w1, Below w.heap.size w w1 ∧ w' = ((w1.setCell ⟨cb, off, none⟩ (.int .i64 (readN s).1)).setCell ⟨rb, 0, none⟩ (.string (readN s).2.1)).setCell ⟨rb, 1, none⟩ (.int .i64 (readN s).2.2) := by
  have s0 : w.cell? ⟨rb, 0, none⟩ = some (.string s) := cell_of_row w rb 0 _ _ _ hr
  have s1 : w.cell? ⟨rb, 1, none⟩ = some (.int .i64 0) := cell_of_row w rb 1 _ _ _ hr
  have CR := chid (fun w => readNumber_any s hs w)
  obtain ⟨n, hn⟩ : ∃ n, n = (readN s).1 := ⟨_, rfl⟩
  obtain ⟨t, ht⟩ : ∃ t, t = (readN s).2.1 := ⟨_, rfl⟩
  obtain ⟨e, hee⟩ : ∃ e, e = (readN s).2.2 := ⟨_, rfl⟩
  rw [← hn, ← ht, ← hee] at CR ⊢
  have HR := chid hr
  have HC := chid hc
  have hlr : rb < w.heap.size := (Array.getElem?_eq_some_iff.1 hr).1
  have hlc : cb < w.heap.size := (Array.getElem?_eq_some_iff.1 hc).1
  clear hr hc hn ht hee
  go_enter Tryd.func44, Tryd.ntmps44
  go_wp2_with fail
  refine (CR.out _).mono ?_
  rintro x w1 ⟨rfl, hb1⟩
  have hr1 : w1.heap[rb]? = _ := (hb1.block _ hlr).trans HR.out
  have hc1 := (hb1.block _ hlc).trans HC.out
  have t0 : w1.cell? ⟨rb, 0, none⟩ = some (.string s) := cell_of_row w1 rb 0 _ _ _ hr1
  have t1 : w1.cell? ⟨rb, 1, none⟩ = some (.int .i64 0) := cell_of_row w1 rb 1 _ _ _ hr1
  have t2 : w1.cell? ⟨cb, off, none⟩ = some old := by rw [← ho]; exact Lib.cell_of_heap hc1 off
  have f0 : ∀ j, w1.frozen? ⟨rb, j, none⟩ = false := fun j => frozen_of_row w1 rb j _ _ hr1
  have f1 : ∀ j, w1.frozen? ⟨cb, j, none⟩ = false := fun j => Lib.frozen_of_heap hc1 j
  have HB1 := chid hb1
  clear hb1 hr1 hc1 s0 s1
  go_wp2
  go_end0
  exact ⟨rfl, w1, HB1.out, rfl⟩

end Go.Proofs.YtkmeiilnjkmkiaiDoor

namespace Go.Proofs.YtkmeiilnjkmkiaiDoor

open Go.RowKit

/-- w' is w but for the blocks a and b, and new ones. -/
structure Two (a b : Nat) (w w' : World) : Prop where
  os : w'.os = w.os
  tape : w'.tape = w.tape
  output : w'.output = w.output
  size : w.heap.size ≤ w'.heap.size
  block : ∀ k, k < w.heap.size → k ≠ a → k ≠ b → w'.heap[k]? = w.heap[k]?

theorem Two.refl (a b : Nat) (w : World) : Two a b w w := ⟨rfl, rfl, rfl, Nat.le_refl _, fun _ _ _ _ => rfl⟩

theorem Two.of_below {a b : Nat} {w w' : World} (h : Below w.heap.size w w') : Two a b w w' := ⟨h.os, h.tape, h.output, h.size, fun k hk _ _ => h.block k hk⟩

theorem Two.setCell {a b : Nat} {w0 w : World} (h : Two a b w0 w) {p : Addr} (hp : p.block = a ∨ p.block = b) (v : Value) : Two a b w0 (w.setCell p v) :=
  ⟨h.os, h.tape, h.output, by have := h.size; simpa [World.setCell] using this, fun k hk h1 h2 => (Below.heap_setCell _ _ _ _ (by rintro rfl; rcases hp with hp | hp; exact h1 hp; exact h2 hp)).trans (h.block k hk h1 h2)⟩

theorem Two.trans {a b : Nat} {w0 w1 w2 : World} (h : Two a b w0 w1) (k : Two a b w1 w2) : Two a b w0 w2 :=
  ⟨k.os.trans h.os, k.tape.trans h.tape, k.output.trans h.output, Nat.le_trans h.size k.size, fun i hi h1 h2 => (k.block i (by have := h.size; omega) h1 h2).trans (h.block i hi h1 h2)⟩

theorem Two.below {a b B : Nat} {w0 w1 w2 : World} (h : Below B w0 w1) (k : Two a b w1 w2) (ha : B ≤ a) (hb : B ≤ b) (hB : B ≤ w1.heap.size) : Below B w0 w2 :=
  ⟨k.os.trans h.os, k.tape.trans h.tape, k.output.trans h.output, Nat.le_trans h.size k.size, fun i hi => (k.block i (by omega) (by omega) (by omega)).trans (h.block i hi)⟩

theorem set_old {cs : Array Value} {off : Nat} {v : Value} (h : cs[off]? = some v) : cs.setIfInBounds off v = cs := by
  apply Array.ext_getElem?
  intro i
  rw [Array.getElem?_setIfInBounds]
  split
  · rename_i e
    subst e
    have := (Array.getElem?_eq_some_iff.1 h).1
    rw [if_pos this, h]
  · rfl

theorem readN_size (s : ByteArray) : (readN s).2.1.size ≤ s.size := by
  unfold readN
  split
  · show (s.extract _ _).size ≤ _
    rw [ByteArray.size_extract]; omega
  · exact Nat.zero_le _

theorem readT_size (s : ByteArray) : (readT s).1.size ≤ s.size ∧ (readT s).2.1.size ≤ s.size := by
  unfold readT
  split
  · exact ⟨Nat.zero_le _, Nat.zero_le _⟩
  · split
    · exact ⟨Nat.zero_le _, Nat.zero_le _⟩
    · split
      · exact ⟨Nat.zero_le _, Nat.zero_le _⟩
      · constructor
        · show (s.extract _ _).size ≤ _
          rw [ByteArray.size_extract]; omega
        · show (s.extract _ _).size ≤ _
          rw [ByteArray.size_extract]; omega

theorem stepN_size (r : ByteArray × Int) : (stepN r).2.1.size ≤ r.1.size := by
  unfold stepN
  split
  · exact readN_size _
  · exact Nat.le_refl _

theorem stepT_size (r : ByteArray × Int) : (stepT r).1.size ≤ r.1.size ∧ (stepT r).2.1.size ≤ r.1.size := by
  unfold stepT
  split
  · exact readT_size _
  · exact ⟨Nat.zero_le _, Nat.le_refl _⟩

theorem rdNumber_any (rb cb off : Nat) (r : ByteArray × Int) (cs : Array Value) (w : World) (hs : r.1.size ≤ 140737488351232) (hr : IsRd rb r.1 r.2 w) (hne : cb ≠ rb) (hc : w.heap[cb]? = some (.cells cs 45 (0, 0))) (ho : cs[off]? = some (.int .i64 0)) :
    Calls Tryd.prog 44 #[.pointer (some ⟨rb, 0, none⟩), .pointer (some ⟨cb, off, none⟩)] w fun x w' => x = .returned (.tuple #[]) ∧ IsRd rb (stepN r).2.1 (stepN r).2.2 w' ∧ w'.heap[cb]? = some (.cells (cs.setIfInBounds off (.int .i64 (stepN r).1)) 45 (0, 0)) ∧ Two rb cb w w' := by
  by_cases he : r.2 = 0
  · have e1 : stepN r = readN r.1 := if_pos he
    rw [e1]
    rw [he] at hr
    have hlr : rb < w.heap.size := (Array.getElem?_eq_some_iff.1 hr).1
    have hlc : cb < w.heap.size := (Array.getElem?_eq_some_iff.1 hc).1
    refine (rdNumber_ok rb cb off r.1 _ cs w hs hr hne hc ho).mono ?_
    rintro x w' ⟨hx, w1, hb1, rfl⟩
    have hr1 : w1.heap[rb]? = _ := (hb1.block _ hlr).trans hr
    have hc1 := (hb1.block _ hlc).trans hc
    refine ⟨hx, ?_, ?_, ?_⟩
    · have g0 : (w1.setCell ⟨cb, off, none⟩ (.int .i64 (readN r.1).1)).heap[rb]? = _ := (heap_setCell_other _ _ _ _ (by simpa using hne.symm)).trans hr1
      have g1 := heap_setCell_same _ rb 0 _ 78 (.string (readN r.1).2.1) g0
      have g2 := heap_setCell_same _ rb 1 _ 78 (.int .i64 (readN r.1).2.2) g1
      unfold IsRd
      simpa using g2
    · rw [heap_setCell_other _ _ _ _ (by simpa using hne), heap_setCell_other _ _ _ _ (by simpa using hne)]
      exact heap_setCell_same _ cb off _ 45 _ hc1
    · exact Two.setCell (p := ⟨rb, 1, none⟩) (Two.setCell (p := ⟨rb, 0, none⟩) (Two.setCell (p := ⟨cb, off, none⟩) (Two.of_below hb1) (.inr rfl) _) (.inl rfl) _) (.inl rfl) _
  · rw [rd_stay he]
    refine (rdNumber_wrong rb cb off r.1 r.2 w hr he).mono ?_
    rintro x w' ⟨hx, rfl⟩
    refine ⟨hx, hr, ?_, Two.refl _ _ _⟩
    rw [set_old ho]
    exact hc

set_option maxHeartbeats 800000 in
theorem rdText_wrong (rb cb off : Nat) (s : ByteArray) (e : Int) (w : World) (hr : IsRd rb s e w) (he : e ≠ 0) :
    Calls Tryd.prog 45 #[.pointer (some ⟨rb, 0, none⟩), .pointer (some ⟨cb, off, none⟩)] w fun x w' => x = .returned (.tuple #[]) ∧ w' = w := by
  have s1 : w.cell? ⟨rb, 1, none⟩ = some (.int .i64 e) := cell_of_row w rb 1 _ _ _ hr
  have heb : (e == 0) = false := by simpa using he
  clear hr he
  go_enter Tryd.func45, Tryd.ntmps45
  go_wp2
  go_end0
  exact ⟨rfl, rfl⟩

set_option maxHeartbeats 1600000 in
theorem rdText_ok (rb cb off : Nat) (s : ByteArray) (old : Value) (cs : Array Value) (w : World) (hs : s.size ≤ 140737488351232) (hr : IsRd rb s 0 w) (hne : cb ≠ rb) (hc : w.heap[cb]? = some (.cells cs 45 (0, 0))) (ho : cs[off]? = some old) :
    Calls Tryd.prog 45 #[.pointer (some ⟨rb, 0, none⟩), .pointer (some ⟨cb, off, none⟩)] w fun x w' => x = .returned (.tuple #[]) ∧ ∃ w1, Below w.heap.size w w1 ∧ w' = ((w1.setCell ⟨cb, off, none⟩ (.string (readT s).1)).setCell ⟨rb, 0, none⟩ (.string (readT s).2.1)).setCell ⟨rb, 1, none⟩ (.int .i64 (readT s).2.2) := by
  have s0 : w.cell? ⟨rb, 0, none⟩ = some (.string s) := cell_of_row w rb 0 _ _ _ hr
  have s1 : w.cell? ⟨rb, 1, none⟩ = some (.int .i64 0) := cell_of_row w rb 1 _ _ _ hr
  have CR := chid (fun w => readText_any s hs w)
  obtain ⟨n, hn⟩ : ∃ n, n = (readT s).1 := ⟨_, rfl⟩
  obtain ⟨t, ht⟩ : ∃ t, t = (readT s).2.1 := ⟨_, rfl⟩
  obtain ⟨e, hee⟩ : ∃ e, e = (readT s).2.2 := ⟨_, rfl⟩
  rw [← hn, ← ht, ← hee] at CR ⊢
  have HR := chid hr
  have HC := chid hc
  have hlr : rb < w.heap.size := (Array.getElem?_eq_some_iff.1 hr).1
  have hlc : cb < w.heap.size := (Array.getElem?_eq_some_iff.1 hc).1
  clear hr hc hn ht hee
  go_enter Tryd.func45, Tryd.ntmps45
  go_wp2_with fail
  refine (CR.out _).mono ?_
  rintro x w1 ⟨rfl, hb1⟩
  have hr1 : w1.heap[rb]? = _ := (hb1.block _ hlr).trans HR.out
  have hc1 := (hb1.block _ hlc).trans HC.out
  have t0 : w1.cell? ⟨rb, 0, none⟩ = some (.string s) := cell_of_row w1 rb 0 _ _ _ hr1
  have t1 : w1.cell? ⟨rb, 1, none⟩ = some (.int .i64 0) := cell_of_row w1 rb 1 _ _ _ hr1
  have t2 : w1.cell? ⟨cb, off, none⟩ = some old := by rw [← ho]; exact Lib.cell_of_heap hc1 off
  have f0 : ∀ j, w1.frozen? ⟨rb, j, none⟩ = false := fun j => frozen_of_row w1 rb j _ _ hr1
  have f1 : ∀ j, w1.frozen? ⟨cb, j, none⟩ = false := fun j => Lib.frozen_of_heap hc1 j
  have HB1 := chid hb1
  clear hb1 hr1 hc1 s0 s1
  go_wp2
  go_end0
  exact ⟨rfl, w1, HB1.out, rfl⟩

theorem rdText_any (rb cb off : Nat) (r : ByteArray × Int) (cs : Array Value) (w : World) (hs : r.1.size ≤ 140737488351232) (hr : IsRd rb r.1 r.2 w) (hne : cb ≠ rb) (hc : w.heap[cb]? = some (.cells cs 45 (0, 0))) (ho : cs[off]? = some (.string ⟨#[]⟩)) :
    Calls Tryd.prog 45 #[.pointer (some ⟨rb, 0, none⟩), .pointer (some ⟨cb, off, none⟩)] w fun x w' => x = .returned (.tuple #[]) ∧ IsRd rb (stepT r).2.1 (stepT r).2.2 w' ∧ w'.heap[cb]? = some (.cells (cs.setIfInBounds off (.string (stepT r).1)) 45 (0, 0)) ∧ Two rb cb w w' := by
  by_cases he : r.2 = 0
  · have e1 : stepT r = readT r.1 := if_pos he
    rw [e1]
    rw [he] at hr
    have hlr : rb < w.heap.size := (Array.getElem?_eq_some_iff.1 hr).1
    have hlc : cb < w.heap.size := (Array.getElem?_eq_some_iff.1 hc).1
    refine (rdText_ok rb cb off r.1 _ cs w hs hr hne hc ho).mono ?_
    rintro x w' ⟨hx, w1, hb1, rfl⟩
    have hr1 : w1.heap[rb]? = _ := (hb1.block _ hlr).trans hr
    have hc1 := (hb1.block _ hlc).trans hc
    refine ⟨hx, ?_, ?_, ?_⟩
    · have g0 : (w1.setCell ⟨cb, off, none⟩ (.string (readT r.1).1)).heap[rb]? = _ := (heap_setCell_other _ _ _ _ (by simpa using hne.symm)).trans hr1
      have g1 := heap_setCell_same _ rb 0 _ 78 (.string (readT r.1).2.1) g0
      have g2 := heap_setCell_same _ rb 1 _ 78 (.int .i64 (readT r.1).2.2) g1
      unfold IsRd
      simpa using g2
    · rw [heap_setCell_other _ _ _ _ (by simpa using hne), heap_setCell_other _ _ _ _ (by simpa using hne)]
      exact heap_setCell_same _ cb off _ 45 _ hc1
    · exact Two.setCell (p := ⟨rb, 1, none⟩) (Two.setCell (p := ⟨rb, 0, none⟩) (Two.setCell (p := ⟨cb, off, none⟩) (Two.of_below hb1) (.inr rfl) _) (.inl rfl) _) (.inl rfl) _
  · rw [rt_stay he]
    refine (rdText_wrong rb cb off r.1 r.2 w hr he).mono ?_
    rintro x w' ⟨hx, rfl⟩
    refine ⟨hx, hr, ?_, Two.refl _ _ _⟩
    rw [set_old ho]
    exact hc

set_option maxHeartbeats 800000 in
theorem rdEnd_any (rb : Nat) (r : ByteArray × Int) (w : World) (hr : IsRd rb r.1 r.2 w) :
    Calls Tryd.prog 39 #[.pointer (some ⟨rb, 0, none⟩)] w fun x w' => x = .returned (.int .i64 (endE r)) ∧ w' = w := by
  have s0 : w.cell? ⟨rb, 0, none⟩ = some (.string r.1) := cell_of_row w rb 0 _ _ _ hr
  have s1 : w.cell? ⟨rb, 1, none⟩ = some (.int .i64 r.2) := cell_of_row w rb 1 _ _ _ hr
  clear hr
  unfold endE
  obtain ⟨s, e⟩ := r
  simp only at s0 s1 ⊢
  by_cases he : e = 0
  · subst he
    by_cases hz : s.size = 0
    · obtain rfl := size_zero hz
      rw [if_neg (fun h => h.2 hz)]
      clear hz
      go_enter Tryd.func39, Tryd.ntmps39
      go_wp2
      go_ret
      exact ⟨rfl, rfl⟩
    · rw [if_pos ⟨rfl, hz⟩]
      have hne := str_ne hz
      clear hz
      go_enter Tryd.func39, Tryd.ntmps39
      go_wp2
      go_ret
      exact ⟨rfl, rfl⟩
  · rw [if_neg (fun h => he h.1)]
    have heb : (e == 0) = false := by simpa using he
    clear he
    go_enter Tryd.func39, Tryd.ntmps39
    go_wp2
    go_ret
    exact ⟨rfl, rfl⟩

end Go.Proofs.YtkmeiilnjkmkiaiDoor
