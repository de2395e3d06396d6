/- customer.hearCall. (Written by gen_hearc.py.); A client in memory of a call's own (joined by program) -/
import Derived.Test.YtcjoekjjebcomalDoorCA10
import Derived.Test.YtcjoekjjebcomalDoorCA04
namespace Go.Proofs.YtcjoekjjebcomalDoor

open Go.RowKit

set_option maxRecDepth 100000 in
set_option maxHeartbeats 1600000 in
theorem hearCall_bad (v : Value) (c : CustD) (q rc : Int) (w : World) (B : Nat) (hv : CustR w B v c) (hB : B ≤ w.heap.size) (hi : idxI (fun x : WaitD => x.seq == q) c.waits = -1) :
    Calls Tryd.prog 19 #[v, .int .i64 q, .int .i64 rc] w fun e w' => e = .returned (.tuple #[.agg #[.int .i64 0, .int .i64 0, .int .i64 0, .slice none 0 0], .int .i64 12]) ∧ Below w.heap.size w w' := by
  have CI : Hid (∀ u, Below w.heap.size w u → ∀ (wv : Value) (b0 : Nat), v = .agg #[.int .i64 c.id, .int .i64 c.session, .int .i64 c.next, wv] → u.heap[b0]? = some (.cells #[.int .i64 q] 3 (0, 0)) → Calls Tryd.prog 31 #[wv, .func (.func 32) #[] #[.pointer (some ⟨b0, 0, none⟩)]] u fun e w' => e = .returned (.int .i64 (idxI (fun x => x.seq == q) c.waits)) ∧ Below u.heap.size u w') := fun u hu wv b0 he hq => by
    obtain ⟨wv', he', hw⟩ := hv
    rw [he] at he'
    simp only [Value.agg.injEq, Array.mk.injEq, List.cons.injEq, and_true, true_and] at he'
    subst he'
    exact indexW wv c.waits 32 #[.pointer (some ⟨b0, 0, none⟩)] (fun x => x.seq == q) (fun _ => False) u B (hw.below hu hB) (by have := hu.size; omega) (enters_of Tryd.func32 (by decide) rfl) (fun x w' _ hw' => by
      have hlt := (Array.getElem?_eq_some_iff.1 hq).1
      refine heard1_any x.seq x.kind x.n x.a x.b q b0 w' ?_ (by have := hw'.size; omega)
      exact (World.cell?_of_block (hw'.block b0 hlt (fun h => h))).trans (cell_of_row u b0 0 _ _ _ hq))
  rw [hi] at CI
  obtain ⟨ao, cap, rfl, -⟩ := hv.shape
  obtain ⟨id, hid⟩ : ∃ z, z = c.id := ⟨_, rfl⟩
  obtain ⟨se, hse⟩ : ∃ z, z = c.session := ⟨_, rfl⟩
  obtain ⟨nx, hnx⟩ : ∃ z, z = c.next := ⟨_, rfl⟩
  obtain ⟨m, hm⟩ : ∃ z, z = c.waits.length := ⟨_, rfl⟩
  rw [← hid, ← hse, ← hnx, ← hm] at CI
  rw [← hid, ← hse, ← hnx, ← hm]
  have HZ : Hid (Below w.heap.size w (((w.alloc (.cells #[.int .i64 id, .int .i64 se, .int .i64 nx, .slice ao m cap] 25)).alloc (.cells #[.int .i64 q] 3)).alloc (.cells #[.int .i64 0, .int .i64 0, .int .i64 0, .slice none 0 0] 25))) := (((Below.refl _ _).alloc (Nat.le_refl _) _).alloc (by simp) _).alloc (by simp; omega) _
  obtain ⟨hx0, ho0, hr0⟩ := three_newB (w := w) (A := (.cells #[.int .i64 id, .int .i64 se, .int .i64 nx, .slice ao m cap] 25)) (R := (.cells #[.int .i64 q] 3)) (S := (.cells #[.int .i64 0, .int .i64 0, .int .i64 0, .slice none 0 0] 25)) (Below.refl _ _)
  have HX0 := ghid hx0
  have HO0 := ghid ho0
  have HR0 := ghid hr0
  clear hx0 ho0 hr0
  clear hv hid hse hnx hm hi
  go_enter Tryd.func19, Tryd.ntmps19
  go_wp2_with fail
  refine (CI.out _ HZ.out _ _ rfl HO0.out).mono ?_
  rintro e w1 ⟨rfl, hb1⟩
  have HB1 := ghid (HZ.out.trans (hb1.mono HZ.out.size))
  have HX1 := ghid (behind HX0.out (Below.refl _ _) hb1)
  have HR1 := ghid (behind HR0.out (Below.refl _ _) hb1)
  have hzz1 : w.heap.size + 3 ≤ w1.heap.size := by have := hb1.size; simpa using this
  obtain ⟨c0, c1, c2, c3, cf, cl⟩ := state_cells HX1.out
  obtain ⟨r0, r1, r2, r3, rf, rl⟩ := state_cells HR1.out
  clear hb1 CI
  go_wp2
  refine bodyPost_ret (v := .tuple #[.agg #[.int .i64 0, .int .i64 0, .int .i64 0, .slice none 0 0], .int .i64 12]) (by simp [results, Tryd.results19, go_sem, r0, r1, r2, r3]) rfl ?_
  exact ⟨rfl, zset4 HB1.out (by omega) _ _ _ _⟩

set_option maxRecDepth 100000 in
set_option maxHeartbeats 3200000 in
theorem hearCall_away (v : Value) (c : CustD) (q : Int) (i : Nat) (w : World) (B : Nat) (hv : CustR w B v c) (hB : B ≤ w.heap.size) (hi : idxI (fun x : WaitD => x.seq == q) c.waits = (i : Int)) (hil : i < c.waits.length) (h5 : c.waits.length < 5) :
    Calls Tryd.prog 19 #[v, .int .i64 q, .int .i64 11] w fun e w' => e = .returned (.tuple #[.agg #[.int .i64 c.id, .int .i64 0, .int .i64 c.next, .slice none 0 0], .int .i64 0]) ∧ Below w.heap.size w w' := by
  have CI : Hid (∀ u, Below w.heap.size w u → ∀ (wv : Value) (b0 : Nat), v = .agg #[.int .i64 c.id, .int .i64 c.session, .int .i64 c.next, wv] → u.heap[b0]? = some (.cells #[.int .i64 q] 3 (0, 0)) → Calls Tryd.prog 31 #[wv, .func (.func 32) #[] #[.pointer (some ⟨b0, 0, none⟩)]] u fun e w' => e = .returned (.int .i64 (idxI (fun x => x.seq == q) c.waits)) ∧ Below u.heap.size u w') := fun u hu wv b0 he hq => by
    obtain ⟨wv', he', hw⟩ := hv
    rw [he] at he'
    simp only [Value.agg.injEq, Array.mk.injEq, List.cons.injEq, and_true, true_and] at he'
    subst he'
    exact indexW wv c.waits 32 #[.pointer (some ⟨b0, 0, none⟩)] (fun x => x.seq == q) (fun _ => False) u B (hw.below hu hB) (by have := hu.size; omega) (enters_of Tryd.func32 (by decide) rfl) (fun x w' _ hw' => by
      have hlt := (Array.getElem?_eq_some_iff.1 hq).1
      refine heard1_any x.seq x.kind x.n x.a x.b q b0 w' ?_ (by have := hw'.size; omega)
      exact (World.cell?_of_block (hw'.block b0 hlt (fun h => h))).trans (cell_of_row u b0 0 _ _ _ hq))
  have C2 := ghid (fun u (hu : Below w.heap.size w u) => custCopy_own v c u B (hv.below hu hB) (by have := hu.size; omega))
  have CD : Hid (∀ (u : World) (rb base : Nat), u.ownsRow base 55 5 (.slice (some ⟨rb, 0, none⟩) c.waits.length c.waits.length) c.waits.length (flatG waitCells c.waits) → _) := fun u rb base hr => deleteW rb c.waits.length i c.waits u base hr rfl hil h5
  rw [hi] at CI
  obtain ⟨ao, cap, rfl, -⟩ := hv.shape
  obtain ⟨id, hid⟩ : ∃ z, z = c.id := ⟨_, rfl⟩
  obtain ⟨se, hse⟩ : ∃ z, z = c.session := ⟨_, rfl⟩
  obtain ⟨nx, hnx⟩ : ∃ z, z = c.next := ⟨_, rfl⟩
  obtain ⟨m, hm⟩ : ∃ z, z = c.waits.length := ⟨_, rfl⟩
  obtain ⟨fl, hfl⟩ : ∃ z, z = flatG waitCells c.waits := ⟨_, rfl⟩
  obtain ⟨fd, hfd⟩ : ∃ z, z = flatG waitCells (c.waits.eraseIdx i) := ⟨_, rfl⟩
  rw [← hid, ← hse, ← hnx, ← hm] at CI
  rw [← hid, ← hse, ← hnx, ← hm, ← hfl] at C2
  rw [← hm, ← hfl, ← hfd] at CD
  rw [← hm] at hil h5
  rw [← hid, ← hse, ← hnx, ← hm]
  have HZ : Hid (Below w.heap.size w (((w.alloc (.cells #[.int .i64 id, .int .i64 se, .int .i64 nx, .slice ao m cap] 25)).alloc (.cells #[.int .i64 q] 3)).alloc (.cells #[.int .i64 0, .int .i64 0, .int .i64 0, .slice none 0 0] 25))) := (((Below.refl _ _).alloc (Nat.le_refl _) _).alloc (by simp) _).alloc (by simp; omega) _
  obtain ⟨hx0, ho0, hr0⟩ := three_newB (w := w) (A := (.cells #[.int .i64 id, .int .i64 se, .int .i64 nx, .slice ao m cap] 25)) (R := (.cells #[.int .i64 q] 3)) (S := (.cells #[.int .i64 0, .int .i64 0, .int .i64 0, .slice none 0 0] 25)) (Below.refl _ _)
  have HX0 := ghid hx0
  have HO0 := ghid ho0
  have HR0 := ghid hr0
  clear hx0 ho0 hr0

  have hin : ¬ (i : Int) < 0 := by omega
  have hiw : IntKind.i64.wrap ((i : Int) + 1) = (i : Int) + 1 := by rw [IntKind.wrap_i64]; omega
  clear hv hid hse hnx hm hfl hfd hi
  go_enter Tryd.func19, Tryd.ntmps19
  go_wp2_with fail
  refine (CI.out _ HZ.out _ _ rfl HO0.out).mono ?_
  rintro e w1 ⟨rfl, hb1⟩
  have HB1 := ghid (HZ.out.trans (hb1.mono HZ.out.size))
  have HX1 := ghid (behind HX0.out (Below.refl _ _) hb1)
  have HR1 := ghid (behind HR0.out (Below.refl _ _) hb1)
  have hzz1 : w.heap.size + 3 ≤ w1.heap.size := by have := hb1.size; simpa using this
  obtain ⟨c0, c1, c2, c3, cf, cl⟩ := state_cells HX1.out
  obtain ⟨r0, r1, r2, r3, rf, rl⟩ := state_cells HR1.out
  clear hb1 CI
  go_wp2_with fail
  refine (C2.out _ HB1.out).mono ?_
  rintro e w2 ⟨rfl, hrow, hb2⟩
  obtain ⟨rb, hrb⟩ : ∃ x, x = w1.heap.size + 2 := ⟨_, rfl⟩
  rw [← hrb] at hrow ⊢
  have hrl : rb < w2.heap.size := (hrow.lt rb rfl).2
  have hx2 := behind HX1.out (Below.refl _ _) hb2
  have hr2 := behind HR1.out (Below.refl _ _) hb2
  have hz2' : w.heap.size + 3 ≤ w2.heap.size := by have := hb2.size; omega
  have hrw : w.heap.size + 3 ≤ rb := by omega
  have hq : Below w2.heap.size w2 (w2.alloc (.cells #[.int .i64 id, .int .i64 se, .int .i64 nx, .slice (some ⟨rb, 0, none⟩) m m] 25)) := (Below.refl _ _).alloc (Nat.le_refl _) _
  have HB2 := ghid ((HB1.out.trans (hb2.mono HB1.out.size)).trans (hq.mono (by omega)))
  have HROW2 := ghid (grow_below (grow_mono hrow (by omega : w.heap.size + 3 ≤ rb)) hq (Nat.le_refl _))
  have HR2 : Hid ((w2.alloc (.cells #[.int .i64 id, .int .i64 se, .int .i64 nx, .slice (some ⟨rb, 0, none⟩) m m] 25)).heap[w.heap.size + 1 + 1]? = some (.cells #[.int .i64 0, .int .i64 0, .int .i64 0, .slice none 0 0] 25 (0, 0))) := (hq.block _ (by omega)).trans hr2
  have HQ2 : Hid ((w2.alloc (.cells #[.int .i64 id, .int .i64 se, .int .i64 nx, .slice (some ⟨rb, 0, none⟩) m m] 25)).heap[w2.heap.size]? = some (.cells #[.int .i64 id, .int .i64 se, .int .i64 nx, .slice (some ⟨rb, 0, none⟩) m m] 25 (0, 0))) := heap_alloc_new w2 _
  clear c0 c1 c2 c3 cf cl r0 r1 r2 r3 rf rl
  obtain ⟨c0, c1, c2, c3, cf, cl⟩ := state_cells hx2
  clear hrow hb2 hq hx2 hr2 C2 hrb
  go_wp2_with fail
  refine (CD.out _ _ _ HROW2.out).mono ?_
  rintro e w3 ⟨rfl, hown3, ht3⟩
  have hq3 : w3.heap[w2.heap.size]? = some (.cells #[.int .i64 id, .int .i64 se, .int .i64 nx, .slice (some ⟨rb, 0, none⟩) m m] 25 (0, 0)) := (ht3.block _ (by simp) (fun e => by omega)).trans HQ2.out
  have hr3 : w3.heap[w.heap.size + 1 + 1]? = some (.cells #[.int .i64 0, .int .i64 0, .int .i64 0, .slice none 0 0] 25 (0, 0)) := (ht3.block _ (by simp; omega) (fun e => by omega)).trans HR2.out
  have HB3 := ghid (HB2.out.trans ((ht3.below (B := w.heap.size) HB2.out.size (fun k e => by omega))))
  have hz3 : w2.heap.size < w3.heap.size := by have := ht3.size; simp at this; omega
  clear c0 c1 c2 c3 cf cl
  obtain ⟨y0, y1, y2, y3, yf, yl⟩ := state_cells hq3
  obtain ⟨r0, r1, r2, r3, rf, rl⟩ := state_cells hr3
  clear hown3 ht3 hq3 hr3 HROW2 HR2 HQ2 HB2 CD
  have HBF := ghid (fun u0 u1 u2 u3 u4 u5 u6 => zset4 ((HB3.out.setCell (by simp; omega) u4 : Below w.heap.size w (w3.setCell ⟨w2.heap.size, 3, none⟩ u4)).setCell (by simp; omega) u5 |>.setCell (by simp; omega) u6 : Below w.heap.size w (((w3.setCell ⟨w2.heap.size, 3, none⟩ u4).setCell ⟨w2.heap.size, 1, none⟩ u5).setCell ⟨w2.heap.size, 3, none⟩ u6)) (b := w.heap.size + 1 + 1) (by omega) u0 u1 u2 u3)
  go_wp2
  refine bodyPost_ret (v := .tuple #[.agg #[.int .i64 id, .int .i64 0, .int .i64 nx, .slice none 0 0], .int .i64 0]) (by simp [results, Tryd.results19, go_sem, r0, r1, r2, r3]) rfl ?_
  exact ⟨rfl, HBF.out _ _ _ _ _ _ _⟩

set_option maxRecDepth 100000 in
set_option maxHeartbeats 3200000 in
theorem hearCall_ok (v : Value) (c : CustD) (q rc : Int) (i : Nat) (w : World) (B : Nat) (hv : CustR w B v c) (hB : B ≤ w.heap.size) (hi : idxI (fun x : WaitD => x.seq == q) c.waits = (i : Int)) (hil : i < c.waits.length) (h5 : c.waits.length < 5) (hrc : rc ≠ 11) :
    Calls Tryd.prog 19 #[v, .int .i64 q, .int .i64 rc] w fun e w' => ∃ vo vc, e = .returned (.tuple #[.agg #[.int .i64 c.id, .int .i64 c.session, .int .i64 c.next, .slice vo (c.waits.length - 1) vc], .int .i64 0]) ∧ w'.ownsRow w.heap.size 55 5 (.slice vo (c.waits.length - 1) vc) (c.waits.length - 1) (flatG waitCells (c.waits.eraseIdx i)) ∧ Below w.heap.size w w' := by
  have CI : Hid (∀ u, Below w.heap.size w u → ∀ (wv : Value) (b0 : Nat), v = .agg #[.int .i64 c.id, .int .i64 c.session, .int .i64 c.next, wv] → u.heap[b0]? = some (.cells #[.int .i64 q] 3 (0, 0)) → Calls Tryd.prog 31 #[wv, .func (.func 32) #[] #[.pointer (some ⟨b0, 0, none⟩)]] u fun e w' => e = .returned (.int .i64 (idxI (fun x => x.seq == q) c.waits)) ∧ Below u.heap.size u w') := fun u hu wv b0 he hq => by
    obtain ⟨wv', he', hw⟩ := hv
    rw [he] at he'
    simp only [Value.agg.injEq, Array.mk.injEq, List.cons.injEq, and_true, true_and] at he'
    subst he'
    exact indexW wv c.waits 32 #[.pointer (some ⟨b0, 0, none⟩)] (fun x => x.seq == q) (fun _ => False) u B (hw.below hu hB) (by have := hu.size; omega) (enters_of Tryd.func32 (by decide) rfl) (fun x w' _ hw' => by
      have hlt := (Array.getElem?_eq_some_iff.1 hq).1
      refine heard1_any x.seq x.kind x.n x.a x.b q b0 w' ?_ (by have := hw'.size; omega)
      exact (World.cell?_of_block (hw'.block b0 hlt (fun h => h))).trans (cell_of_row u b0 0 _ _ _ hq))
  have C2 := ghid (fun u (hu : Below w.heap.size w u) => custCopy_own v c u B (hv.below hu hB) (by have := hu.size; omega))
  have CD : Hid (∀ (u : World) (rb base : Nat), u.ownsRow base 55 5 (.slice (some ⟨rb, 0, none⟩) c.waits.length c.waits.length) c.waits.length (flatG waitCells c.waits) → _) := fun u rb base hr => deleteW rb c.waits.length i c.waits u base hr rfl hil h5
  rw [hi] at CI
  obtain ⟨ao, cap, rfl, -⟩ := hv.shape
  obtain ⟨id, hid⟩ : ∃ z, z = c.id := ⟨_, rfl⟩
  obtain ⟨se, hse⟩ : ∃ z, z = c.session := ⟨_, rfl⟩
  obtain ⟨nx, hnx⟩ : ∃ z, z = c.next := ⟨_, rfl⟩
  obtain ⟨m, hm⟩ : ∃ z, z = c.waits.length := ⟨_, rfl⟩
  obtain ⟨fl, hfl⟩ : ∃ z, z = flatG waitCells c.waits := ⟨_, rfl⟩
  obtain ⟨fd, hfd⟩ : ∃ z, z = flatG waitCells (c.waits.eraseIdx i) := ⟨_, rfl⟩
  rw [← hid, ← hse, ← hnx, ← hm] at CI
  rw [← hid, ← hse, ← hnx, ← hm, ← hfl] at C2
  rw [← hm, ← hfl, ← hfd] at CD
  rw [← hm] at hil h5
  rw [← hid, ← hse, ← hnx, ← hm, ← hfd]
  have HZ : Hid (Below w.heap.size w (((w.alloc (.cells #[.int .i64 id, .int .i64 se, .int .i64 nx, .slice ao m cap] 25)).alloc (.cells #[.int .i64 q] 3)).alloc (.cells #[.int .i64 0, .int .i64 0, .int .i64 0, .slice none 0 0] 25))) := (((Below.refl _ _).alloc (Nat.le_refl _) _).alloc (by simp) _).alloc (by simp; omega) _
  obtain ⟨hx0, ho0, hr0⟩ := three_newB (w := w) (A := (.cells #[.int .i64 id, .int .i64 se, .int .i64 nx, .slice ao m cap] 25)) (R := (.cells #[.int .i64 q] 3)) (S := (.cells #[.int .i64 0, .int .i64 0, .int .i64 0, .slice none 0 0] 25)) (Below.refl _ _)
  have HX0 := ghid hx0
  have HO0 := ghid ho0
  have HR0 := ghid hr0
  clear hx0 ho0 hr0
  have hrcb : (rc == 11) = false := by simpa using hrc
  have hin : ¬ (i : Int) < 0 := by omega
  have hiw : IntKind.i64.wrap ((i : Int) + 1) = (i : Int) + 1 := by rw [IntKind.wrap_i64]; omega
  clear hv hid hse hnx hm hfl hfd hi hrc
  go_enter Tryd.func19, Tryd.ntmps19
  go_wp2_with fail
  refine (CI.out _ HZ.out _ _ rfl HO0.out).mono ?_
  rintro e w1 ⟨rfl, hb1⟩
  have HB1 := ghid (HZ.out.trans (hb1.mono HZ.out.size))
  have HX1 := ghid (behind HX0.out (Below.refl _ _) hb1)
  have HR1 := ghid (behind HR0.out (Below.refl _ _) hb1)
  have hzz1 : w.heap.size + 3 ≤ w1.heap.size := by have := hb1.size; simpa using this
  obtain ⟨c0, c1, c2, c3, cf, cl⟩ := state_cells HX1.out
  obtain ⟨r0, r1, r2, r3, rf, rl⟩ := state_cells HR1.out
  clear hb1 CI
  go_wp2_with fail
  refine (C2.out _ HB1.out).mono ?_
  rintro e w2 ⟨rfl, hrow, hb2⟩
  obtain ⟨rb, hrb⟩ : ∃ x, x = w1.heap.size + 2 := ⟨_, rfl⟩
  rw [← hrb] at hrow ⊢
  have hrl : rb < w2.heap.size := (hrow.lt rb rfl).2
  have hx2 := behind HX1.out (Below.refl _ _) hb2
  have hr2 := behind HR1.out (Below.refl _ _) hb2
  have hz2' : w.heap.size + 3 ≤ w2.heap.size := by have := hb2.size; omega
  have hrw : w.heap.size + 3 ≤ rb := by omega
  have hq : Below w2.heap.size w2 (w2.alloc (.cells #[.int .i64 id, .int .i64 se, .int .i64 nx, .slice (some ⟨rb, 0, none⟩) m m] 25)) := (Below.refl _ _).alloc (Nat.le_refl _) _
  have HB2 := ghid ((HB1.out.trans (hb2.mono HB1.out.size)).trans (hq.mono (by omega)))
  have HROW2 := ghid (grow_below (grow_mono hrow (by omega : w.heap.size + 3 ≤ rb)) hq (Nat.le_refl _))
  have HR2 : Hid ((w2.alloc (.cells #[.int .i64 id, .int .i64 se, .int .i64 nx, .slice (some ⟨rb, 0, none⟩) m m] 25)).heap[w.heap.size + 1 + 1]? = some (.cells #[.int .i64 0, .int .i64 0, .int .i64 0, .slice none 0 0] 25 (0, 0))) := (hq.block _ (by omega)).trans hr2
  have HQ2 : Hid ((w2.alloc (.cells #[.int .i64 id, .int .i64 se, .int .i64 nx, .slice (some ⟨rb, 0, none⟩) m m] 25)).heap[w2.heap.size]? = some (.cells #[.int .i64 id, .int .i64 se, .int .i64 nx, .slice (some ⟨rb, 0, none⟩) m m] 25 (0, 0))) := heap_alloc_new w2 _
  clear c0 c1 c2 c3 cf cl r0 r1 r2 r3 rf rl
  obtain ⟨c0, c1, c2, c3, cf, cl⟩ := state_cells hx2
  clear hrow hb2 hq hx2 hr2 C2 hrb
  go_wp2_with fail
  refine (CD.out _ _ _ HROW2.out).mono ?_
  rintro e w3 ⟨rfl, hown3, ht3⟩
  have hq3 : w3.heap[w2.heap.size]? = some (.cells #[.int .i64 id, .int .i64 se, .int .i64 nx, .slice (some ⟨rb, 0, none⟩) m m] 25 (0, 0)) := (ht3.block _ (by simp) (fun e => by omega)).trans HQ2.out
  have hr3 : w3.heap[w.heap.size + 1 + 1]? = some (.cells #[.int .i64 0, .int .i64 0, .int .i64 0, .slice none 0 0] 25 (0, 0)) := (ht3.block _ (by simp; omega) (fun e => by omega)).trans HR2.out
  have HB3 := ghid (HB2.out.trans ((ht3.below (B := w.heap.size) HB2.out.size (fun k e => by omega))))
  have hz3 : w2.heap.size < w3.heap.size := by have := ht3.size; simp at this; omega
  clear c0 c1 c2 c3 cf cl
  obtain ⟨y0, y1, y2, y3, yf, yl⟩ := state_cells hq3
  obtain ⟨r0, r1, r2, r3, rf, rl⟩ := state_cells hr3
  have HROW : Hid (∀ u0 u1 u2 u3 u4, (((((w3.setCell ⟨w2.heap.size, 3, none⟩ u4).setCell ⟨w.heap.size + 1 + 1, 0, none⟩ u0).setCell ⟨w.heap.size + 1 + 1, 1, none⟩ u1).setCell ⟨w.heap.size + 1 + 1, 2, none⟩ u2).setCell ⟨w.heap.size + 1 + 1, 3, none⟩ u3).ownsRow w.heap.size 55 5 (.slice (some ⟨rb, 0, none⟩) (m - 1) m) (m - 1) fd) := fun u0 u1 u2 u3 u4 => grow_keep (grow_mono hown3 (by omega)) fun j hj => by
    have e : rb = j := by simpa [Value.ownBlock] using hj
    subst e
    rw [heap_setCell_other _ _ _ _ (by simp; omega), heap_setCell_other _ _ _ _ (by simp; omega), heap_setCell_other _ _ _ _ (by simp; omega), heap_setCell_other _ _ _ _ (by simp; omega), heap_setCell_other _ _ _ _ (by simp; omega)]
  have HBF := ghid (fun u0 u1 u2 u3 u4 => zset4 (HB3.out.setCell (by simp; omega) u4 : Below w.heap.size w (w3.setCell ⟨w2.heap.size, 3, none⟩ u4)) (b := w.heap.size + 1 + 1) (by omega) u0 u1 u2 u3)
  clear hown3 ht3 hq3 hr3 HROW2 HR2 HQ2 HB2 CD
  go_wp2
  refine bodyPost_ret (v := .tuple #[.agg #[.int .i64 id, .int .i64 se, .int .i64 nx, .slice (some ⟨rb, 0, none⟩) (m - 1) m], .int .i64 0]) (by simp [results, Tryd.results19, go_sem, r0, r1, r2, r3]) rfl ?_
  exact ⟨_, _, rfl, HROW.out _ _ _ _ _, HBF.out _ _ _ _ _⟩

end Go.Proofs.YtcjoekjjebcomalDoor

namespace Go.Proofs.YtcjoekjjebcomalDoor

open Go.RowKit

/-- The value v is the client c; its calls lie in memory of the call's own. -/
def CustO (w : World) (base : Nat) (v : Value) (c : CustD) : Prop :=
  ∃ vo vc, v = .agg #[.int .i64 c.id, .int .i64 c.session, .int .i64 c.next, .slice vo c.waits.length vc] ∧ w.ownsRow base 55 5 (.slice vo c.waits.length vc) c.waits.length (flatG waitCells c.waits) ∧ c.waits.length * 56 ≤ 140737488351232 ∧ ModestW c.waits

theorem CustO.reads {w : World} {base : Nat} {v : Value} {c : CustD} (h : CustO w base v c) : CustR w w.heap.size v c := by
  obtain ⟨vo, vc, rfl, h1, h2, h3⟩ := h
  exact ⟨_, rfl, waits_row_reads h1 h2 h3 (Nat.le_refl _)⟩

theorem CustO.keep {w w' : World} {base base' : Nat} {v : Value} {c : CustD} (h : CustO w base v c) (hb : base' ≤ base) (hk : ∀ j, base ≤ j → j < w.heap.size → w'.heap[j]? = w.heap[j]?) : CustO w' base' v c := by
  obtain ⟨vo, vc, rfl, h1, h2, h3⟩ := h
  exact ⟨vo, vc, rfl, grow_mono (grow_keep h1 fun j hj => hk j (h1.lt j hj).1 (h1.lt j hj).2) hb, h2, h3⟩

theorem CustO.zero (w : World) (base : Nat) : CustO w base (.agg #[.int .i64 0, .int .i64 0, .int .i64 0, .slice none 0 0]) .zero :=
  ⟨none, 0, rfl, World.ownsRow_nil _ _ _ _, by show 0 * 56 ≤ _; omega, fun x hx => absurd hx (by simp [CustD.zero])⟩

/-- A client put into a block of its type that lies ahead of its calls. -/
theorem CustO.put4 {w : World} {base m p : Nat} {v : Value} {c : CustD} (h : CustO w base v c) (hp : p < base) (hm : m ≤ base) (a0 a1 a2 a3 : Value) : CustO ((((w.setCell ⟨p, 0, none⟩ a0).setCell ⟨p, 1, none⟩ a1).setCell ⟨p, 2, none⟩ a2).setCell ⟨p, 3, none⟩ a3) m v c :=
  h.keep hm fun j hj _ => by
    rw [heap_setCell_other _ _ _ _ (by simp; omega), heap_setCell_other _ _ _ _ (by simp; omega), heap_setCell_other _ _ _ _ (by simp; omega), heap_setCell_other _ _ _ _ (by simp; omega)]

theorem set4c {w : World} {p : Nat} {x0 x1 x2 x3 : Value} {t : TypeId} (h : w.heap[p]? = some (.cells #[x0, x1, x2, x3] t (0, 0))) (a0 a1 a2 a3 : Value) :
    ((((w.setCell ⟨p, 0, none⟩ a0).setCell ⟨p, 1, none⟩ a1).setCell ⟨p, 2, none⟩ a2).setCell ⟨p, 3, none⟩ a3).heap[p]? = some (.cells #[a0, a1, a2, a3] t (0, 0)) := by
  rw [heap_set (heap_set (heap_set (heap_set h _) _) _) _]
  rfl

theorem put4_heap {w : World} {p q : Nat} (hq : q ≠ p) (a0 a1 a2 a3 : Value) : ((((w.setCell ⟨p, 0, none⟩ a0).setCell ⟨p, 1, none⟩ a1).setCell ⟨p, 2, none⟩ a2).setCell ⟨p, 3, none⟩ a3).heap[q]? = w.heap[q]? := by
  rw [heap_setCell_other _ _ _ _ (by simpa using hq), heap_setCell_other _ _ _ _ (by simpa using hq), heap_setCell_other _ _ _ _ (by simpa using hq), heap_setCell_other _ _ _ _ (by simpa using hq)]

/-- A row of calls behind a client's block that is put anew. -/
theorem row_put4 {w : World} {p n m : Nat} {v : Value} {xs : List Value} {cs : Array Value} (h : w.ownsRow m 55 5 v n xs) (hp : w.heap[p]? = some (.cells cs 25 (0, 0))) (a0 a1 a2 a3 : Value) : ((((w.setCell ⟨p, 0, none⟩ a0).setCell ⟨p, 1, none⟩ a1).setCell ⟨p, 2, none⟩ a2).setCell ⟨p, 3, none⟩ a3).ownsRow m 55 5 v n xs :=
  grow_keep h fun j hj => put4_heap (fun e => by
    subst e
    rcases h.2 with ⟨e', _⟩ | ⟨g', cap', cur, e', _, hg, _⟩
    · rw [e'] at hj; cases hj
    · rw [e'] at hj
      simp only [Value.ownBlock, Option.some.injEq] at hj
      subst hj
      rw [hp] at hg
      simp only [Option.some.injEq, Obj.cells.injEq] at hg
      exact absurd hg.2.1 (by decide)) _ _ _ _

theorem modest_sub {ws us : List WaitD} (h : ModestW ws) (hs : ∀ x ∈ us, x ∈ ws) : ModestW us := fun x hx => h x (hs x hx)

end Go.Proofs.YtcjoekjjebcomalDoor
