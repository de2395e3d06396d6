/- Three blocks made ahead of a callee. It names no program; customer.hearJoin, customer.hearCall, customer.Hear. (Written by gen_hear.py.) (joined by program) -/
import Derived.Test.YtcjoekjjebcomalDoorCA03
import Derived.Test.YtcjoekjjebcomalDoorCA07
import Derived.Test.YtcjoekjjebcomalDoorCA08
import Derived.Test.YtcjoekjjebcomalDoorCA09
import Derived.Test.YtcjoekjjebcomalDoorCA02
namespace Go.Proofs.YtcjoekjjebcomalDoor

open Go.RowKit

/-- Three blocks made ahead of a callee. -/
theorem three_newB {w w2 : World} {A R S : Obj} (hb : Below (w.heap.size + 3) (((w.alloc A).alloc R).alloc S) w2) : w2.heap[w.heap.size]? = some A ∧ w2.heap[w.heap.size + 1]? = some R ∧ w2.heap[w.heap.size + 1 + 1]? = some S := by
  have h1 := heap_alloc_new ((w.alloc A).alloc R) S
  rw [World.size_alloc, World.size_alloc] at h1
  obtain ⟨h2, h3⟩ := two_newB (w := w) (A := A) (R := R) (Below.refl _ _)
  refine ⟨?_, ?_, ?_⟩
  · rw [hb.block _ (by omega), Below.heap_alloc _ _ _ (by simp; omega)]
    exact h3
  · rw [hb.block _ (by omega), Below.heap_alloc _ _ _ (by simp)]
    exact h2
  · rw [hb.block _ (by omega)]
    exact h1

end Go.Proofs.YtcjoekjjebcomalDoor

namespace Go.Proofs.YtcjoekjjebcomalDoor

open Go.RowKit

set_option maxRecDepth 100000 in
set_option maxHeartbeats 1600000 in
theorem hearJoin_bad (v : Value) (c : CustD) (rc rn : Int) (rt : ByteArray) (w : World) (B : Nat) (hv : CustR w B v c) (hB : B ≤ w.heap.size) (hs : hjE c.session rc rn ≠ 0) :
    Calls Tryd.prog 18 #[v, .agg #[.int .i64 rc, .int .i64 rn, .string rt]] w fun e w' => e = .returned (.tuple #[.agg #[.int .i64 0, .int .i64 0, .int .i64 0, .slice none 0 0], .int .i64 (hjE c.session rc rn)]) ∧ Below w.heap.size w w' := by
  have C2 := ghid (fun u (hu : Below w.heap.size w u) => custCopy_own v c u B (hv.below hu hB) (by have := hu.size; omega))
  obtain ⟨ao, cap, rfl, -⟩ := hv.shape
  obtain ⟨id, hid⟩ : ∃ z, z = c.id := ⟨_, rfl⟩
  obtain ⟨se, hse⟩ : ∃ z, z = c.session := ⟨_, rfl⟩
  obtain ⟨nx, hnx⟩ : ∃ z, z = c.next := ⟨_, rfl⟩
  obtain ⟨m, hm⟩ : ∃ z, z = c.waits.length := ⟨_, rfl⟩
  obtain ⟨fl, hfl⟩ : ∃ z, z = flatG waitCells c.waits := ⟨_, rfl⟩
  rw [← hid, ← hse, ← hnx, ← hm, ← hfl] at C2
  rw [← hse] at hs
  rw [← hse]
  rw [← hid, ← hnx, ← hm]
  have HZ : Hid (Below w.heap.size w (((w.alloc (.cells #[.int .i64 id, .int .i64 se, .int .i64 nx, .slice ao m cap] 25)).alloc (.cells #[.int .i64 rc, .int .i64 rn, .string rt] 37)).alloc (.cells #[.int .i64 0, .int .i64 0, .int .i64 0, .slice none 0 0] 25))) := (((Below.refl _ _).alloc (Nat.le_refl _) _).alloc (by simp) _).alloc (by simp; omega) _
  obtain ⟨hx0, ho0, hr0⟩ := three_newB (w := w) (A := (.cells #[.int .i64 id, .int .i64 se, .int .i64 nx, .slice ao m cap] 25)) (R := (.cells #[.int .i64 rc, .int .i64 rn, .string rt] 37)) (S := (.cells #[.int .i64 0, .int .i64 0, .int .i64 0, .slice none 0 0] 25)) (Below.refl _ _)
  have HX0 := ghid hx0
  have HO0 := ghid ho0
  have HR0 := ghid hr0
  clear hx0 ho0 hr0
  clear hv hid hse hnx hm hfl
  by_cases h1 : se = 0
  · have hrc : (rc = 0 ∨ rc = 7) ∧ ¬ (1 ≤ rn ∧ rn ≤ 1073741824) := by
      refine Classical.byContradiction fun e => hs ?_
      unfold hjE
      rw [if_neg (by simpa using h1), if_neg e]
    have HE : Hid (hjE se rc rn = 2) := by unfold Hid hjE; rw [if_neg (by simpa using h1), if_pos hrc]
    have CN := ghid (fun u => cu_no rn 1 1073741824 u hrc.2)
    subst h1
    rw [HE.out]
    have hw := hrc.1
    clear hs hrc
    go_enter Tryd.func18, Tryd.ntmps18
    go_wp2_with fail
    refine (C2.out _ HZ.out).mono ?_
    rintro e w2 ⟨rfl, hrow, hb2⟩
    obtain ⟨rb, hrb⟩ : ∃ x, x = (((w.alloc (.cells #[.int .i64 id, .int .i64 0, .int .i64 nx, .slice ao m cap] 25)).alloc (.cells #[.int .i64 rc, .int .i64 rn, .string rt] 37)).alloc (.cells #[.int .i64 0, .int .i64 0, .int .i64 0, .slice none 0 0] 25)).heap.size + 2 := ⟨_, rfl⟩
    rw [← hrb] at hrow ⊢
    have hrl : rb < w2.heap.size := (hrow.lt rb rfl).2
    have hx2 := behind HX0.out (Below.refl _ _) hb2
    have ho2 := behind HO0.out (Below.refl _ _) hb2
    have hr2 := behind HR0.out (Below.refl _ _) hb2
    have hz2' : w.heap.size + 3 ≤ w2.heap.size := by have := hb2.size; simp at this; omega
    have hrw : w.heap.size + 3 ≤ rb := by simp at hrb; omega
    have HB2 := ghid (HZ.out.trans (hb2.mono HZ.out.size))
    have HROW2 := ghid (grow_mono hrow (by omega : w.heap.size + 3 ≤ rb))
    obtain ⟨c0, c1, c2, c3, cf, cl⟩ := state_cells hx2
    obtain ⟨o0, o1, o2, of, ol⟩ := reply_cells ho2
    obtain ⟨r0, r1, r2, r3, rf, rl⟩ := state_cells hr2
    clear hrow hb2 hx2 ho2 hr2 C2 hrb
    rcases hw with hw | hw
    all_goals
      subst hw
      go_wp2_with fail
      refine (CN.out _).mono ?_
      rintro e w3 ⟨rfl, rfl⟩
      go_wp2
      refine bodyPost_ret (v := .tuple #[.agg #[.int .i64 0, .int .i64 0, .int .i64 0, .slice none 0 0], .int .i64 2]) (by simp [results, Tryd.results18, go_sem, r0, r1, r2, r3, rl]) rfl ?_
      exact ⟨rfl, (zset4 HB2.out (by omega) _ _ _ _).alloc (by simp; omega) _⟩
  · have hsb : (se != 0) = true := by simpa using h1
    have HE : Hid (hjE se rc rn = 12) := by unfold Hid hjE; rw [if_pos h1]
    rw [HE.out]
    clear hs h1
    go_enter Tryd.func18, Tryd.ntmps18
    go_wp2_with fail
    refine (C2.out _ HZ.out).mono ?_
    rintro e w2 ⟨rfl, hrow, hb2⟩
    obtain ⟨rb, hrb⟩ : ∃ x, x = (((w.alloc (.cells #[.int .i64 id, .int .i64 se, .int .i64 nx, .slice ao m cap] 25)).alloc (.cells #[.int .i64 rc, .int .i64 rn, .string rt] 37)).alloc (.cells #[.int .i64 0, .int .i64 0, .int .i64 0, .slice none 0 0] 25)).heap.size + 2 := ⟨_, rfl⟩
    rw [← hrb] at hrow ⊢
    have hrl : rb < w2.heap.size := (hrow.lt rb rfl).2
    have hx2 := behind HX0.out (Below.refl _ _) hb2
    have ho2 := behind HO0.out (Below.refl _ _) hb2
    have hr2 := behind HR0.out (Below.refl _ _) hb2
    have hz2' : w.heap.size + 3 ≤ w2.heap.size := by have := hb2.size; simp at this; omega
    have hrw : w.heap.size + 3 ≤ rb := by simp at hrb; omega
    have HB2 := ghid (HZ.out.trans (hb2.mono HZ.out.size))
    have HROW2 := ghid (grow_mono hrow (by omega : w.heap.size + 3 ≤ rb))
    obtain ⟨c0, c1, c2, c3, cf, cl⟩ := state_cells hx2
    obtain ⟨o0, o1, o2, of, ol⟩ := reply_cells ho2
    obtain ⟨r0, r1, r2, r3, rf, rl⟩ := state_cells hr2
    clear hrow hb2 hx2 ho2 hr2 C2 hrb
    go_wp2
    refine bodyPost_ret (v := .tuple #[.agg #[.int .i64 0, .int .i64 0, .int .i64 0, .slice none 0 0], .int .i64 12]) (by simp [results, Tryd.results18, go_sem, r0, r1, r2, r3, rl]) rfl ?_
    exact ⟨rfl, (zset4 HB2.out (by omega) _ _ _ _).alloc (by simp; omega) _⟩

set_option maxRecDepth 100000 in
set_option maxHeartbeats 1600000 in
theorem hearJoin_ok (v : Value) (c : CustD) (rc rn : Int) (rt : ByteArray) (w : World) (B : Nat) (hv : CustR w B v c) (hB : B ≤ w.heap.size) (hs : hjE c.session rc rn = 0) :
    Calls Tryd.prog 18 #[v, .agg #[.int .i64 rc, .int .i64 rn, .string rt]] w fun e w' => ∃ vo vc, e = .returned (.tuple #[.agg #[.int .i64 c.id, .int .i64 (hjS c.session rc rn), .int .i64 c.next, .slice vo c.waits.length vc], .int .i64 0]) ∧ w'.ownsRow w.heap.size 55 5 (.slice vo c.waits.length vc) c.waits.length (flatG waitCells c.waits) ∧ Below w.heap.size w w' := by
  have C2 := ghid (fun u (hu : Below w.heap.size w u) => custCopy_own v c u B (hv.below hu hB) (by have := hu.size; omega))
  obtain ⟨ao, cap, rfl, -⟩ := hv.shape
  obtain ⟨id, hid⟩ : ∃ z, z = c.id := ⟨_, rfl⟩
  obtain ⟨se, hse⟩ : ∃ z, z = c.session := ⟨_, rfl⟩
  obtain ⟨nx, hnx⟩ : ∃ z, z = c.next := ⟨_, rfl⟩
  obtain ⟨m, hm⟩ : ∃ z, z = c.waits.length := ⟨_, rfl⟩
  obtain ⟨fl, hfl⟩ : ∃ z, z = flatG waitCells c.waits := ⟨_, rfl⟩
  rw [← hid, ← hse, ← hnx, ← hm, ← hfl] at C2
  rw [← hse] at hs
  rw [← hid, ← hse, ← hnx, ← hm, ← hfl]
  have HZ : Hid (Below w.heap.size w (((w.alloc (.cells #[.int .i64 id, .int .i64 se, .int .i64 nx, .slice ao m cap] 25)).alloc (.cells #[.int .i64 rc, .int .i64 rn, .string rt] 37)).alloc (.cells #[.int .i64 0, .int .i64 0, .int .i64 0, .slice none 0 0] 25))) := (((Below.refl _ _).alloc (Nat.le_refl _) _).alloc (by simp) _).alloc (by simp; omega) _
  obtain ⟨hx0, ho0, hr0⟩ := three_newB (w := w) (A := (.cells #[.int .i64 id, .int .i64 se, .int .i64 nx, .slice ao m cap] 25)) (R := (.cells #[.int .i64 rc, .int .i64 rn, .string rt] 37)) (S := (.cells #[.int .i64 0, .int .i64 0, .int .i64 0, .slice none 0 0] 25)) (Below.refl _ _)
  have HX0 := ghid hx0
  have HO0 := ghid ho0
  have HR0 := ghid hr0
  clear hx0 ho0 hr0
  have h1 : se = 0 := Classical.byContradiction fun e => by unfold hjE at hs; rw [if_pos e] at hs; omega
  clear hv hid hse hnx hm hfl
  have HROWF : Hid (∀ (w2 : World) (rb : Nat), w2.ownsRow (w.heap.size + 3) 55 5 (.slice (some ⟨rb, 0, none⟩) m m) m fl → ∀ u0 u1 u2 u3 o, (((((w2.setCell ⟨w.heap.size + 1 + 1, 0, none⟩ u0).setCell ⟨w.heap.size + 1 + 1, 1, none⟩ u1).setCell ⟨w.heap.size + 1 + 1, 2, none⟩ u2).setCell ⟨w.heap.size + 1 + 1, 3, none⟩ u3).alloc o).ownsRow w.heap.size 55 5 (.slice (some ⟨rb, 0, none⟩) m m) m fl) := fun w2 rb hr u0 u1 u2 u3 o => (grow_keep (grow_mono hr (by omega)) fun j hj => by
    have e := (hr.lt j hj).1
    rw [heap_setCell_other _ _ _ _ (by simp; omega), heap_setCell_other _ _ _ _ (by simp; omega), heap_setCell_other _ _ _ _ (by simp; omega), heap_setCell_other _ _ _ _ (by simp; omega)]).alloc o
  by_cases hrc : rc = 0 ∨ rc = 7
  · have hn : 1 ≤ rn ∧ rn ≤ 1073741824 := Classical.byContradiction fun e => by unfold hjE at hs; rw [if_neg (by simpa using h1), if_pos ⟨hrc, e⟩] at hs; omega
    have HS : Hid (hjS se rc rn = rn) := if_pos hrc
    have CN := ghid (fun u => cu_yes rn 1 1073741824 u hn)
    rw [HS.out]
    subst h1
    clear hs hn
    go_enter Tryd.func18, Tryd.ntmps18
    go_wp2_with fail
    refine (C2.out _ HZ.out).mono ?_
    rintro e w2 ⟨rfl, hrow, hb2⟩
    obtain ⟨rb, hrb⟩ : ∃ x, x = (((w.alloc (.cells #[.int .i64 id, .int .i64 0, .int .i64 nx, .slice ao m cap] 25)).alloc (.cells #[.int .i64 rc, .int .i64 rn, .string rt] 37)).alloc (.cells #[.int .i64 0, .int .i64 0, .int .i64 0, .slice none 0 0] 25)).heap.size + 2 := ⟨_, rfl⟩
    rw [← hrb] at hrow ⊢
    have hrl : rb < w2.heap.size := (hrow.lt rb rfl).2
    have hx2 := behind HX0.out (Below.refl _ _) hb2
    have ho2 := behind HO0.out (Below.refl _ _) hb2
    have hr2 := behind HR0.out (Below.refl _ _) hb2
    have hz2' : w.heap.size + 3 ≤ w2.heap.size := by have := hb2.size; simp at this; omega
    have hrw : w.heap.size + 3 ≤ rb := by simp at hrb; omega
    have HB2 := ghid (HZ.out.trans (hb2.mono HZ.out.size))
    have HROW2 := ghid (grow_mono hrow (by omega : w.heap.size + 3 ≤ rb))
    obtain ⟨c0, c1, c2, c3, cf, cl⟩ := state_cells hx2
    obtain ⟨o0, o1, o2, of, ol⟩ := reply_cells ho2
    obtain ⟨r0, r1, r2, r3, rf, rl⟩ := state_cells hr2
    clear hrow hb2 hx2 ho2 hr2 C2 hrb
    rcases hrc with hrc | hrc
    all_goals
      subst hrc
      go_wp2_with fail
      refine (CN.out _).mono ?_
      rintro e w3 ⟨rfl, rfl⟩
      go_wp2
      refine bodyPost_ret (v := .tuple #[.agg #[.int .i64 id, .int .i64 rn, .int .i64 nx, .slice (some ⟨rb, 0, none⟩) m m], .int .i64 0]) (by simp [results, Tryd.results18, go_sem, r0, r1, r2, r3, rl]) rfl ?_
      exact ⟨_, _, rfl, HROWF.out _ _ HROW2.out _ _ _ _ _, (zset4 HB2.out (by omega) _ _ _ _).alloc (by simp; omega) _⟩
  · have HS : Hid (hjS se rc rn = se) := if_neg hrc
    rw [HS.out]
    have hr0' : (rc != 0) = true := by simp; exact fun e => hrc (.inl e)
    have hr7 : (rc != 7) = true := by simp; exact fun e => hrc (.inr e)
    subst h1
    clear hs hrc
    go_enter Tryd.func18, Tryd.ntmps18
    go_wp2_with fail
    refine (C2.out _ HZ.out).mono ?_
    rintro e w2 ⟨rfl, hrow, hb2⟩
    obtain ⟨rb, hrb⟩ : ∃ x, x = (((w.alloc (.cells #[.int .i64 id, .int .i64 0, .int .i64 nx, .slice ao m cap] 25)).alloc (.cells #[.int .i64 rc, .int .i64 rn, .string rt] 37)).alloc (.cells #[.int .i64 0, .int .i64 0, .int .i64 0, .slice none 0 0] 25)).heap.size + 2 := ⟨_, rfl⟩
    rw [← hrb] at hrow ⊢
    have hrl : rb < w2.heap.size := (hrow.lt rb rfl).2
    have hx2 := behind HX0.out (Below.refl _ _) hb2
    have ho2 := behind HO0.out (Below.refl _ _) hb2
    have hr2 := behind HR0.out (Below.refl _ _) hb2
    have hz2' : w.heap.size + 3 ≤ w2.heap.size := by have := hb2.size; simp at this; omega
    have hrw : w.heap.size + 3 ≤ rb := by simp at hrb; omega
    have HB2 := ghid (HZ.out.trans (hb2.mono HZ.out.size))
    have HROW2 := ghid (grow_mono hrow (by omega : w.heap.size + 3 ≤ rb))
    obtain ⟨c0, c1, c2, c3, cf, cl⟩ := state_cells hx2
    obtain ⟨o0, o1, o2, of, ol⟩ := reply_cells ho2
    obtain ⟨r0, r1, r2, r3, rf, rl⟩ := state_cells hr2
    clear hrow hb2 hx2 ho2 hr2 C2 hrb
    go_wp2
    refine bodyPost_ret (v := .tuple #[.agg #[.int .i64 id, .int .i64 0, .int .i64 nx, .slice (some ⟨rb, 0, none⟩) m m], .int .i64 0]) (by simp [results, Tryd.results18, go_sem, r0, r1, r2, r3, rl]) rfl ?_
    exact ⟨_, _, rfl, HROWF.out _ _ HROW2.out _ _ _ _ _, (zset4 HB2.out (by omega) _ _ _ _).alloc (by simp; omega) _⟩

end Go.Proofs.YtcjoekjjebcomalDoor
