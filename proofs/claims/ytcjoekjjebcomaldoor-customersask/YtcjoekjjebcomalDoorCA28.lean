/- The reader's methods by one contract each, and call; The reader's call: what a Call has behind its head, read (joined by program) -/
import Derived.BigRegion
import Derived.Test.YtcjoekjjebcomalDoorCA27
namespace Go.Proofs.YtcjoekjjebcomalDoor

open Go.RowKit

/-- w' is w but for the blocks a and b, and new ones. -/
structure Two (a b : Nat) (w w' : World) : Prop where
  os : w'.os = w.os
  tape : w'.tape = w.tape
  output : w'.output = w.output
  size : w.heap.size ≤ w'.heap.size
  block : ∀ k, k < w.heap.size → k ≠ a → k ≠ b → w'.heap[k]? = w.heap[k]?

theorem Two.refl (a b : Nat) (w : World) : Two a b w w := ⟨rfl, rfl, rfl, Nat.le_refl _, fun _ _ _ _ => rfl⟩

theorem Two.of_below {a b : Nat} {w w' : World} (h : Below w.heap.size w w') : Two a b w w' := ⟨h.os, h.tape, h.output, h.size, fun k hk _ _ => h.block k hk⟩

theorem Two.setCell {a b : Nat} {w0 w : World} (h : Two a b w0 w) {p : Addr} (hp : p.block = a ∨ p.block = b) (v : Value) : Two a b w0 (w.setCell p v) :=
  ⟨h.os, h.tape, h.output, by have := h.size; simpa [World.setCell] using this, fun k hk h1 h2 => (Below.heap_setCell _ _ _ _ (by rintro rfl; rcases hp with hp | hp; exact h1 hp; exact h2 hp)).trans (h.block k hk h1 h2)⟩

theorem Two.trans {a b : Nat} {w0 w1 w2 : World} (h : Two a b w0 w1) (k : Two a b w1 w2) : Two a b w0 w2 :=
  ⟨k.os.trans h.os, k.tape.trans h.tape, k.output.trans h.output, Nat.le_trans h.size k.size, fun i hi h1 h2 => (k.block i (by have := h.size; omega) h1 h2).trans (h.block i hi h1 h2)⟩

theorem Two.below {a b B : Nat} {w0 w1 w2 : World} (h : Below B w0 w1) (k : Two a b w1 w2) (ha : B ≤ a) (hb : B ≤ b) (hB : B ≤ w1.heap.size) : Below B w0 w2 :=
  ⟨k.os.trans h.os, k.tape.trans h.tape, k.output.trans h.output, Nat.le_trans h.size k.size, fun i hi => (k.block i (by omega) (by omega) (by omega)).trans (h.block i hi)⟩

theorem set_old {cs : Array Value} {off : Nat} {v : Value} (h : cs[off]? = some v) : cs.setIfInBounds off v = cs := by
  apply Array.ext_getElem?
  intro i
  rw [Array.getElem?_setIfInBounds]
  split
  · rename_i e
    subst e
    have := (Array.getElem?_eq_some_iff.1 h).1
    rw [if_pos this, h]
  · rfl

theorem readN_size (s : ByteArray) : (readN s).2.1.size ≤ s.size := by
  unfold readN
  split
  · show (s.extract _ _).size ≤ _
    rw [ByteArray.size_extract]; omega
  · exact Nat.zero_le _

theorem readT_size (s : ByteArray) : (readT s).1.size ≤ s.size ∧ (readT s).2.1.size ≤ s.size := by
  unfold readT
  split
  · exact ⟨Nat.zero_le _, Nat.zero_le _⟩
  · split
    · exact ⟨Nat.zero_le _, Nat.zero_le _⟩
    · split
      · exact ⟨Nat.zero_le _, Nat.zero_le _⟩
      · constructor
        · show (s.extract _ _).size ≤ _
          rw [ByteArray.size_extract]; omega
        · show (s.extract _ _).size ≤ _
          rw [ByteArray.size_extract]; omega

theorem stepN_size (r : ByteArray × Int) : (stepN r).2.1.size ≤ r.1.size := by
  unfold stepN
  split
  · exact readN_size _
  · exact Nat.le_refl _

theorem stepT_size (r : ByteArray × Int) : (stepT r).1.size ≤ r.1.size ∧ (stepT r).2.1.size ≤ r.1.size := by
  unfold stepT
  split
  · exact readT_size _
  · exact ⟨Nat.zero_le _, Nat.le_refl _⟩

theorem rdNumber_any (rb cb off : Nat) (r : ByteArray × Int) (cs : Array Value) (w : World) (hs : r.1.size ≤ 140737488351232) (hr : IsRd rb r.1 r.2 w) (hne : cb ≠ rb) (hc : w.heap[cb]? = some (.cells cs 45 (0, 0))) (ho : cs[off]? = some (.int .i64 0)) :
    Calls Tryd.prog 35 #[.pointer (some ⟨rb, 0, none⟩), .pointer (some ⟨cb, off, none⟩)] w fun x w' => x = .returned (.tuple #[]) ∧ IsRd rb (stepN r).2.1 (stepN r).2.2 w' ∧ w'.heap[cb]? = some (.cells (cs.setIfInBounds off (.int .i64 (stepN r).1)) 45 (0, 0)) ∧ Two rb cb w w' := by
  by_cases he : r.2 = 0
  · have e1 : stepN r = readN r.1 := if_pos he
    rw [e1]
    rw [he] at hr
    have hlr : rb < w.heap.size := (Array.getElem?_eq_some_iff.1 hr).1
    have hlc : cb < w.heap.size := (Array.getElem?_eq_some_iff.1 hc).1
    refine (rdNumber_ok rb cb off r.1 _ cs w hs hr hne hc ho).mono ?_
    rintro x w' ⟨hx, w1, hb1, rfl⟩
    have hr1 : w1.heap[rb]? = _ := (hb1.block _ hlr).trans hr
    have hc1 := (hb1.block _ hlc).trans hc
    refine ⟨hx, ?_, ?_, ?_⟩
    · have g0 : (w1.setCell ⟨cb, off, none⟩ (.int .i64 (readN r.1).1)).heap[rb]? = _ := (heap_setCell_other _ _ _ _ (by simpa using hne.symm)).trans hr1
      have g1 := heap_setCell_same _ rb 0 _ 64 (.string (readN r.1).2.1) g0
      have g2 := heap_setCell_same _ rb 1 _ 64 (.int .i64 (readN r.1).2.2) g1
      unfold IsRd
      simpa using g2
    · rw [heap_setCell_other _ _ _ _ (by simpa using hne), heap_setCell_other _ _ _ _ (by simpa using hne)]
      exact heap_setCell_same _ cb off _ 45 _ hc1
    · exact Two.setCell (p := ⟨rb, 1, none⟩) (Two.setCell (p := ⟨rb, 0, none⟩) (Two.setCell (p := ⟨cb, off, none⟩) (Two.of_below hb1) (.inr rfl) _) (.inl rfl) _) (.inl rfl) _
  · rw [rd_stay he]
    refine (rdNumber_wrong rb cb off r.1 r.2 w hr he).mono ?_
    rintro x w' ⟨hx, rfl⟩
    refine ⟨hx, hr, ?_, Two.refl _ _ _⟩
    rw [set_old ho]
    exact hc

set_option maxHeartbeats 800000 in
theorem rdText_wrong (rb cb off : Nat) (s : ByteArray) (e : Int) (w : World) (hr : IsRd rb s e w) (he : e ≠ 0) :
    Calls Tryd.prog 36 #[.pointer (some ⟨rb, 0, none⟩), .pointer (some ⟨cb, off, none⟩)] w fun x w' => x = .returned (.tuple #[]) ∧ w' = w := by
  have s1 : w.cell? ⟨rb, 1, none⟩ = some (.int .i64 e) := cell_of_row w rb 1 _ _ _ hr
  have heb : (e == 0) = false := by simpa using he
  clear hr he
  go_enter Tryd.func36, Tryd.ntmps36
  go_wp2
  go_end0
  exact ⟨rfl, rfl⟩

set_option maxHeartbeats 1600000 in
theorem rdText_ok (rb cb off : Nat) (s : ByteArray) (old : Value) (cs : Array Value) (w : World) (hs : s.size ≤ 140737488351232) (hr : IsRd rb s 0 w) (hne : cb ≠ rb) (hc : w.heap[cb]? = some (.cells cs 45 (0, 0))) (ho : cs[off]? = some old) :
    Calls Tryd.prog 36 #[.pointer (some ⟨rb, 0, none⟩), .pointer (some ⟨cb, off, none⟩)] w fun x w' => x = .returned (.tuple #[]) ∧ ∃ w1, Below w.heap.size w w1 ∧ w' = ((w1.setCell ⟨cb, off, none⟩ (.string (readT s).1)).setCell ⟨rb, 0, none⟩ (.string (readT s).2.1)).setCell ⟨rb, 1, none⟩ (.int .i64 (readT s).2.2) := by
  have s0 : w.cell? ⟨rb, 0, none⟩ = some (.string s) := cell_of_row w rb 0 _ _ _ hr
  have s1 : w.cell? ⟨rb, 1, none⟩ = some (.int .i64 0) := cell_of_row w rb 1 _ _ _ hr
  have CR := chid (fun w => readText_any s hs w)
  obtain ⟨n, hn⟩ : ∃ n, n = (readT s).1 := ⟨_, rfl⟩
  obtain ⟨t, ht⟩ : ∃ t, t = (readT s).2.1 := ⟨_, rfl⟩
  obtain ⟨e, hee⟩ : ∃ e, e = (readT s).2.2 := ⟨_, rfl⟩
  rw [← hn, ← ht, ← hee] at CR ⊢
  have HR := chid hr
  have HC := chid hc
  have hlr : rb < w.heap.size := (Array.getElem?_eq_some_iff.1 hr).1
  have hlc : cb < w.heap.size := (Array.getElem?_eq_some_iff.1 hc).1
  clear hr hc hn ht hee
  go_enter Tryd.func36, Tryd.ntmps36
  go_wp2_with fail
  refine (CR.out _).mono ?_
  rintro x w1 ⟨rfl, hb1⟩
  have hr1 : w1.heap[rb]? = _ := (hb1.block _ hlr).trans HR.out
  have hc1 := (hb1.block _ hlc).trans HC.out
  have t0 : w1.cell? ⟨rb, 0, none⟩ = some (.string s) := cell_of_row w1 rb 0 _ _ _ hr1
  have t1 : w1.cell? ⟨rb, 1, none⟩ = some (.int .i64 0) := cell_of_row w1 rb 1 _ _ _ hr1
  have t2 : w1.cell? ⟨cb, off, none⟩ = some old := by rw [← ho]; exact Lib.cell_of_heap hc1 off
  have f0 : ∀ j, w1.frozen? ⟨rb, j, none⟩ = false := fun j => frozen_of_row w1 rb j _ _ hr1
  have f1 : ∀ j, w1.frozen? ⟨cb, j, none⟩ = false := fun j => Lib.frozen_of_heap hc1 j
  have HB1 := chid hb1
  clear hb1 hr1 hc1 s0 s1
  go_wp2
  go_end0
  exact ⟨rfl, w1, HB1.out, rfl⟩

theorem rdText_any (rb cb off : Nat) (r : ByteArray × Int) (cs : Array Value) (w : World) (hs : r.1.size ≤ 140737488351232) (hr : IsRd rb r.1 r.2 w) (hne : cb ≠ rb) (hc : w.heap[cb]? = some (.cells cs 45 (0, 0))) (ho : cs[off]? = some (.string ⟨#[]⟩)) :
    Calls Tryd.prog 36 #[.pointer (some ⟨rb, 0, none⟩), .pointer (some ⟨cb, off, none⟩)] w fun x w' => x = .returned (.tuple #[]) ∧ IsRd rb (stepT r).2.1 (stepT r).2.2 w' ∧ w'.heap[cb]? = some (.cells (cs.setIfInBounds off (.string (stepT r).1)) 45 (0, 0)) ∧ Two rb cb w w' := by
  by_cases he : r.2 = 0
  · have e1 : stepT r = readT r.1 := if_pos he
    rw [e1]
    rw [he] at hr
    have hlr : rb < w.heap.size := (Array.getElem?_eq_some_iff.1 hr).1
    have hlc : cb < w.heap.size := (Array.getElem?_eq_some_iff.1 hc).1
    refine (rdText_ok rb cb off r.1 _ cs w hs hr hne hc ho).mono ?_
    rintro x w' ⟨hx, w1, hb1, rfl⟩
    have hr1 : w1.heap[rb]? = _ := (hb1.block _ hlr).trans hr
    have hc1 := (hb1.block _ hlc).trans hc
    refine ⟨hx, ?_, ?_, ?_⟩
    · have g0 : (w1.setCell ⟨cb, off, none⟩ (.string (readT r.1).1)).heap[rb]? = _ := (heap_setCell_other _ _ _ _ (by simpa using hne.symm)).trans hr1
      have g1 := heap_setCell_same _ rb 0 _ 64 (.string (readT r.1).2.1) g0
      have g2 := heap_setCell_same _ rb 1 _ 64 (.int .i64 (readT r.1).2.2) g1
      unfold IsRd
      simpa using g2
    · rw [heap_setCell_other _ _ _ _ (by simpa using hne), heap_setCell_other _ _ _ _ (by simpa using hne)]
      exact heap_setCell_same _ cb off _ 45 _ hc1
    · exact Two.setCell (p := ⟨rb, 1, none⟩) (Two.setCell (p := ⟨rb, 0, none⟩) (Two.setCell (p := ⟨cb, off, none⟩) (Two.of_below hb1) (.inr rfl) _) (.inl rfl) _) (.inl rfl) _
  · rw [rt_stay he]
    refine (rdText_wrong rb cb off r.1 r.2 w hr he).mono ?_
    rintro x w' ⟨hx, rfl⟩
    refine ⟨hx, hr, ?_, Two.refl _ _ _⟩
    rw [set_old ho]
    exact hc

set_option maxHeartbeats 800000 in
theorem rdEnd_any (rb : Nat) (r : ByteArray × Int) (w : World) (hr : IsRd rb r.1 r.2 w) :
    Calls Tryd.prog 25 #[.pointer (some ⟨rb, 0, none⟩)] w fun x w' => x = .returned (.int .i64 (endE r)) ∧ w' = w := by
  have s0 : w.cell? ⟨rb, 0, none⟩ = some (.string r.1) := cell_of_row w rb 0 _ _ _ hr
  have s1 : w.cell? ⟨rb, 1, none⟩ = some (.int .i64 r.2) := cell_of_row w rb 1 _ _ _ hr
  clear hr
  unfold endE
  obtain ⟨s, e⟩ := r
  simp only at s0 s1 ⊢
  by_cases he : e = 0
  · subst he
    by_cases hz : s.size = 0
    · obtain rfl := size_zero hz
      rw [if_neg (fun h => h.2 hz)]
      clear hz
      go_enter Tryd.func25, Tryd.ntmps25
      go_wp2
      go_ret
      exact ⟨rfl, rfl⟩
    · rw [if_pos ⟨rfl, hz⟩]
      have hne := str_ne hz
      clear hz
      go_enter Tryd.func25, Tryd.ntmps25
      go_wp2
      go_ret
      exact ⟨rfl, rfl⟩
  · rw [if_neg (fun h => he h.1)]
    have heb : (e == 0) = false := by simpa using he
    clear he
    go_enter Tryd.func25, Tryd.ntmps25
    go_wp2
    go_ret
    exact ⟨rfl, rfl⟩

end Go.Proofs.YtcjoekjjebcomalDoor

namespace Go.Proofs.YtcjoekjjebcomalDoor

open Go.RowKit

/-- Where the numbers of a Call lie. -/
def offN (j : Nat) : Nat := [2, 3, 4, 5, 8].getD j 0

/-- The reader, behind so many numbers. -/
def rdAt (s : ByteArray) : Nat → ByteArray × Int
  | 0 => (s, 0)
  | j + 1 => (stepN (rdAt s j)).2

/-- The cells of the command, behind so many numbers. -/
def csAt (k c : Int) (s : ByteArray) : Nat → Array Value
  | 0 => #[.int .i64 k, .int .i64 c, .int .i64 0, .int .i64 0, .int .i64 0, .int .i64 0, .string ⟨#[]⟩, .string ⟨#[]⟩, .int .i64 0]
  | j + 1 => (csAt k c s j).setIfInBounds (offN j) (.int .i64 (stepN (rdAt s j)).1)

theorem rdAt_size (s : ByteArray) (j : Nat) : (rdAt s j).1.size ≤ s.size := by
  induction j with
  | zero => exact Nat.le_refl _
  | succ j ih => exact Nat.le_trans (stepN_size _) ih

theorem csAt_next (k c : Int) (s : ByteArray) (j : Nat) (h : j < 5) : (csAt k c s j)[offN j]? = some (.int .i64 0) := by
  rcases (by omega : j = 0 ∨ j = 1 ∨ j = 2 ∨ j = 3 ∨ j = 4) with rfl | rfl | rfl | rfl | rfl <;> simp [csAt, offN]

theorem csAt_five (k c : Int) (s : ByteArray) : csAt k c s 5 = #[.int .i64 k, .int .i64 c, .int .i64 (stepN (rdAt s 0)).1, .int .i64 (stepN (rdAt s 1)).1, .int .i64 (stepN (rdAt s 2)).1, .int .i64 (stepN (rdAt s 3)).1, .string ⟨#[]⟩, .string ⟨#[]⟩, .int .i64 (stepN (rdAt s 4)).1] := by
  simp [csAt, offN]

set_option maxRecDepth 100000 in
set_option maxHeartbeats 6400000 in
theorem rdCall_any (rb cb : Nat) (k c : Int) (s : ByteArray) (w : World) (hs : s.size ≤ 140737488351232) (hr : IsRd rb s 0 w) (hne : cb ≠ rb) (hc : IsCm cb ⟨k, c, 0, 0, 0, 0, ⟨#[]⟩, ⟨#[]⟩, 0⟩ w) :
    Calls Tryd.prog 24 #[.pointer (some ⟨rb, 0, none⟩), .pointer (some ⟨cb, 0, none⟩)] w fun x w' => x = .returned (.tuple #[]) ∧ IsRd rb (decCall k c s).2.1 (decCall k c s).2.2 w' ∧ IsCm cb (decCall k c s).1 w' ∧ Two rb cb w w' := by
  have hlr : rb < w.heap.size := (Array.getElem?_eq_some_iff.1 hr).1
  have hlc : cb < w.heap.size := (Array.getElem?_eq_some_iff.1 hc).1
  have HR := chid hr
  have HC := chid hc
  clear hr hc
  go_enter Tryd.func24, Tryd.ntmps24
  go_wp2_with fail
  go_region
  have hb0 : Below w.heap.size w (w.alloc (.cells #[.pointer (some ⟨cb, 2, none⟩), .pointer (some ⟨cb, 3, none⟩), .pointer (some ⟨cb, 4, none⟩), .pointer (some ⟨cb, 5, none⟩), .pointer (some ⟨cb, 8, none⟩)] 78)).drew := ((Below.refl _ _).alloc (Nat.le_refl _) _).drew
  have HB0 := chid hb0
  clear hb0
  go_wp2
  go_loopw [25] (fun i wr => ∃ j : Nat, j ≤ 5 ∧ i = .int .i64 j ∧ IsRd rb (rdAt s j).1 (rdAt s j).2 wr ∧ wr.heap[cb]? = some (.cells (csAt k c s j) 45 (0, 0)) ∧ wr.heap[w.heap.size]? = some (.cells #[.pointer (some ⟨cb, 2, none⟩), .pointer (some ⟨cb, 3, none⟩), .pointer (some ⟨cb, 4, none⟩), .pointer (some ⟨cb, 5, none⟩), .pointer (some ⟨cb, 8, none⟩)] 78 (0, 0)) ∧ Two rb cb w wr) (fun i _ => 5 - (intOf i).toNat)
  case atStart =>
    refine ⟨0, by omega, rfl, (HB0.out.block _ hlr).trans HR.out, (HB0.out.block _ hlc).trans HC.out, ?_, Two.of_below HB0.out⟩
    exact heap_alloc_new w _
  case round =>
    obtain ⟨j, hj, rfl, hrd, hcm, hrow, htw⟩ := hrel
    have HRD := chid hrd
    have HCM := chid hcm
    have HRW := chid hrow
    have HTW := chid htw
    have hzr : w.heap.size < wr.heap.size := (Array.getElem?_eq_some_iff.1 hrow).1
    clear hrd hcm hrow htw
    by_cases hlt : j < 5
    · have hcx : wr.cell? ⟨w.heap.size, j, none⟩ = some (.pointer (some ⟨cb, offN j, none⟩)) := by
        rw [Lib.cell_of_heap HRW.out]
        rcases (by omega : j = 0 ∨ j = 1 ∨ j = 2 ∨ j = 3 ∨ j = 4) with rfl | rfl | rfl | rfl | rfl <;> rfl
      have CN := chid (rdNumber_any rb cb (offN j) (rdAt s j) (csAt k c s j) wr (Nat.le_trans (rdAt_size s j) hs) HRD.out hne HCM.out (csAt_next k c s j hlt))
      obtain ⟨o, ho⟩ : ∃ o, o = offN j := ⟨_, rfl⟩
      rw [← ho] at hcx CN
      have HO := chid ho
      clear ho
      go_wp2_with fail
      refine CN.out.mono ?_
      rintro e w2 ⟨rfl, hr2, hc2, ht2⟩
      have HR2 := chid hr2
      have HC2 := chid hc2
      have HW2 : Hid (w2.heap[w.heap.size]? = _) := (ht2.block _ hzr (by omega) (by omega)).trans HRW.out
      have HT2 := chid (HTW.out.trans ht2)
      clear hr2 hc2 ht2 hcx CN
      go_wp2
      go_roundw
      case rel =>
        refine ⟨j + 1, by omega, by go_num, HR2.out, ?_, HW2.out, HT2.out⟩
        have h := HC2.out
        rw [HO.out] at h
        exact h
      case measure => simp [intOf]; omega
    · obtain rfl : j = 5 := by omega
      have h6 : (csAt k c s 5)[6]? = some (.string ⟨#[]⟩) := by rw [csAt_five]; rfl
      have CT := chid (rdText_any rb cb 6 (rdAt s 5) (csAt k c s 5) wr (Nat.le_trans (rdAt_size s 5) hs) HRD.out hne HCM.out h6)
      clear h6 hlt hj
      go_wp2_with fail
      refine CT.out.mono ?_
      rintro e w2 ⟨rfl, hr2, hc2, ht2⟩
      have h7 : ((csAt k c s 5).setIfInBounds 6 (.string (stepT (rdAt s 5)).1))[7]? = some (.string ⟨#[]⟩) := by rw [csAt_five]; rfl
      have CU := chid (rdText_any rb cb 7 (stepT (rdAt s 5)).2 _ w2 (Nat.le_trans (stepT_size _).2 (Nat.le_trans (rdAt_size s 5) hs)) hr2 hne hc2 h7)
      have HT2 := chid (HTW.out.trans ht2)
      clear hr2 hc2 ht2 CT h7
      go_wp2_with fail
      refine CU.out.mono ?_
      rintro e w3 ⟨rfl, hr3, hc3, ht3⟩
      have HR3 := chid hr3
      have HC3 := chid hc3
      have HT3 := chid (HT2.out.trans ht3)
      clear hr3 hc3 ht3 CU
      go_wp2
      go_end0
      refine ⟨rfl, HR3.out, ?_, HT3.out⟩
      have h := HC3.out
      rw [csAt_five] at h
      exact h

end Go.Proofs.YtcjoekjjebcomalDoor
