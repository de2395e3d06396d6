/- machine.Copy; Lists of numbers that are only read: the document's has, slices.Index, slices.Contains, the law's sameInts (joined by program) -/
import Derived.Deep.QuietTactic
import Derived.BigQuiet
import Derived.Test.YtbmfahgekcnkaaiRC06
import Derived.Test.YtbmfahgekcnkaaiRC16
import Derived.Test.YtbmfahgekcnkaaiRC19
import Derived.Test.YtbmfahgekcnkaaiRC21
import Derived.Test.YtbmfahgekcnkaaiRC03
namespace Go.Proofs.Ytbmfahgekcnkaai

open Go.RowKit

/-- What lies in a new block is kept by a callee that leaves all that lay. -/
theorem box_below {w w' : World} {b : Nat} {o : Obj} (h : w.heap[b]? = some o) (hb : Below w.heap.size w w') : w'.heap[b]? = some o :=
  (hb.block b (Array.getElem?_eq_some_iff.1 h).1).trans h

theorem box_set {w : World} {p j : Nat} {cs : Array Value} {t : TypeId} (h : w.heap[p]? = some (.cells cs t (0, 0))) (u : Value) : (w.setCell ⟨p, j, none⟩ u).heap[p]? = some (.cells (cs.setIfInBounds j u) t (0, 0)) := by
  simp only [World.setCell]
  rw [Array.getElem?_modify, h]
  simp

/-- What the walk wants of a block of four cells. -/
theorem box4f {w : World} {p : Nat} {x0 x1 x2 x3 : Value} {t : TypeId} (h : w.heap[p]? = some (.cells #[x0, x1, x2, x3] t (0, 0))) :
    w.cell? ⟨p, 0, none⟩ = some x0 ∧ w.cell? ⟨p, 1, none⟩ = some x1 ∧ w.cell? ⟨p, 2, none⟩ = some x2 ∧ w.cell? ⟨p, 3, none⟩ = some x3 ∧ (∀ j, w.frozen? ⟨p, j, none⟩ = false) ∧ p < w.heap.size :=
  ⟨cell_of_row w p 0 _ _ _ h, cell_of_row w p 1 _ _ _ h, cell_of_row w p 2 _ _ _ h, cell_of_row w p 3 _ _ _ h, fun j => frozen_of_row w p j _ _ h, (Array.getElem?_eq_some_iff.1 h).1⟩

theorem OwnL.far {w : World} {base b : Nat} {v : Value} {rs : List (LockD × Value)} (h : OwnL w base v rs) (hb : b < base) (j : Nat) (u : Value) : OwnL (w.setCell ⟨b, j, none⟩ u) base v rs := by
  refine h.keep (fun c hc => heap_setCell_other _ _ _ _ ?_) (fun c hc => heap_setCell_other _ _ _ _ ?_)
  · have := (h.row.lt c hc).1
    simp only
    omega
  · have := (h.lines.lt hc).1
    simp only
    omega

theorem OwnS.far {w : World} {base b : Nat} {v : Value} {rs : List (SessD × Value)} (h : OwnS w base v rs) (hb : b < base) (j : Nat) (u : Value) : OwnS (w.setCell ⟨b, j, none⟩ u) base v rs := by
  refine h.keep (fun c hc => heap_setCell_other _ _ _ _ ?_) (fun c hc => heap_setCell_other _ _ _ _ ?_)
  · have := (h.row.lt c hc).1
    simp only
    omega
  · have := (h.reps.lt hc).1
    simp only
    omega

theorem prow_far {w : World} {base b : Nat} {e : TypeId} {size n : Nat} {v : Value} {xs : List Value} (h : w.ownsRow base e size v n xs) (hb : b < base) (j : Nat) (u : Value) : (w.setCell ⟨b, j, none⟩ u).ownsRow base e size v n xs :=
  prow_keep h fun c hc => heap_setCell_other _ _ _ _ (by have := (h.lt c hc).1; simp only; omega)

set_option maxRecDepth 100000 in
set_option maxHeartbeats 1600000 in
theorem machCopy_rows (v : Value) (s : StateD) (w : World) (B : Nat) (hv : StateR w B v s) (hB : B ≤ w.heap.size) :
    Calls Try.prog 29 #[v] w fun e w' => ∃ lo po so ln lc pn pc sn sc, e = .returned (.agg #[.int .i64 s.index, .slice lo ln lc, .slice po pn pc, .slice so sn sc]) ∧ LocksO w' w.heap.size (.slice lo ln lc) s.locks ∧ w'.ownsRow w.heap.size 78 3 (.slice po pn pc) s.pairs.length (flatP s.pairs) ∧ (∃ rs, rs.map (·.1) = s.sess ∧ OwnS w' w.heap.size (.slice so sn sc) rs) ∧ Below w.heap.size w w' := by
  obtain ⟨lv, pv, sv, rfl, h1, h2, h3⟩ := hv
  have CL := ghid (fun (w' : World) (hb : Below w.heap.size w w') => copy_any lv s.locks w' B (h1.below hb hB) (by have := hb.size; omega))
  have CP := ghid (fun (w' : World) (hb : Below w.heap.size w w') => mcopyPairs_any pv s.pairs w' B (h2.below hb hB) (by have := hb.size; omega))
  have CS := ghid (fun (w' : World) (hb : Below w.heap.size w w') => sessCopy_any sv s.sess w' B (h3.below hb hB) (by have := hb.size; omega))
  obtain ⟨lo, lc, rfl⟩ := h1.slice
  obtain ⟨po, pc, rfl⟩ := h2.slice
  obtain ⟨so, sc, rfl⟩ := h3.slice
  have hb0 : Below w.heap.size w ((w.alloc (.cells #[.int .i64 s.index, .slice lo s.locks.length lc, .slice po s.pairs.length pc, .slice so s.sess.length sc] 38)).alloc (.cells #[.int .i64 0, .slice none 0 0, .slice none 0 0, .slice none 0 0] 38)) := ((Below.refl w.heap.size w).alloc (Nat.le_refl _) _).alloc (by simp) _
  have hbx : ((w.alloc (.cells #[.int .i64 s.index, .slice lo s.locks.length lc, .slice po s.pairs.length pc, .slice so s.sess.length sc] 38)).alloc (.cells #[.int .i64 0, .slice none 0 0, .slice none 0 0, .slice none 0 0] 38)).heap[w.heap.size]? = some (.cells #[.int .i64 s.index, .slice lo s.locks.length lc, .slice po s.pairs.length pc, .slice so s.sess.length sc] 38 (0, 0)) := by
    rw [Below.heap_alloc _ _ _ (by simp)]
    exact heap_alloc_new w _
  have hry : ((w.alloc (.cells #[.int .i64 s.index, .slice lo s.locks.length lc, .slice po s.pairs.length pc, .slice so s.sess.length sc] 38)).alloc (.cells #[.int .i64 0, .slice none 0 0, .slice none 0 0, .slice none 0 0] 38)).heap[w.heap.size + 1]? = some (.cells #[.int .i64 0, .slice none 0 0, .slice none 0 0, .slice none 0 0] 38 (0, 0)) := by
    have := heap_alloc_new (w.alloc (.cells #[.int .i64 s.index, .slice lo s.locks.length lc, .slice po s.pairs.length pc, .slice so s.sess.length sc] 38)) (.cells #[.int .i64 0, .slice none 0 0, .slice none 0 0, .slice none 0 0] 38)
    rwa [World.size_alloc] at this
  have HB0 := ghid hb0
  have HX0 := ghid hbx
  have HY0 := ghid hry
  clear h1 h2 h3 hb0 hbx hry
  go_enter Try.func29, Try.ntmps29
  go_wp2_with fail
  refine (CL.out _ HB0.out).mono ?_
  rintro e w1 ⟨rfl, rs, hrs, hown1, hb1⟩
  simp only [World.size_alloc] at hown1 hb1 ⊢
  have hx1 := box_below HX0.out (by simpa using hb1)
  have hy1 := box_below HY0.out (by simpa using hb1)
  have hzA : w.heap.size + 2 ≤ w1.heap.size := by have := hb1.size; simp at this; omega
  have hbw1 : Below w.heap.size w w1 := HB0.out.trans (hb1.mono (by omega))
  have hx2 := box_set (j := 1) hx1 (.slice (some ⟨w.heap.size + 1 + 1, 0, none⟩) s.locks.length s.locks.length)
  have hy2 : (w1.setCell ⟨w.heap.size, 1, none⟩ (.slice (some ⟨w.heap.size + 1 + 1, 0, none⟩) s.locks.length s.locks.length)).heap[w.heap.size + 1]? = _ := (heap_setCell_other _ _ _ _ (by simp)).trans hy1
  have hb2 : Below w.heap.size w (w1.setCell ⟨w.heap.size, 1, none⟩ (.slice (some ⟨w.heap.size + 1 + 1, 0, none⟩) s.locks.length s.locks.length)) := hbw1.setCell (Nat.le_refl _) _
  have ho2 := hown1.far (b := w.heap.size) (by omega) 1 (.slice (some ⟨w.heap.size + 1 + 1, 0, none⟩) s.locks.length s.locks.length)
  simp only [List.setIfInBounds_toArray, List.set_cons_zero, List.set_cons_succ] at hx2
  obtain ⟨y0, y1, y2, y3, yf, hyl⟩ := box4f hx1
  obtain ⟨W2, hW2⟩ : ∃ W2, W2 = w1.setCell ⟨w.heap.size, 1, none⟩ (.slice (some ⟨w.heap.size + 1 + 1, 0, none⟩) s.locks.length s.locks.length) := ⟨_, rfl⟩
  rw [← hW2] at hx2 hy2 hb2 ho2
  have hz2 : w1.heap.size ≤ W2.heap.size := by rw [hW2]; simp
  have HX2 := ghid hx2
  have HY2 := ghid hy2
  have HB2 := ghid hb2
  have HO2 := ghid ho2
  have HW2 := ghid hW2
  have HRS := ghid hrs
  obtain ⟨x0, x1, x2, x3, xf, hxl⟩ := box4f hx2
  clear hx1 hy1 hx2 hy2 hb2 ho2 hb1 hbw1 hown1 hrs hW2
  go_upto_region 2 with fail
  rw [← HW2.out]
  clear y0 y1 y2 y3 yf hyl
  go_wp2_with fail
  refine (CP.out _ HB2.out).mono ?_
  rintro e w3 ⟨rfl, hown3, hb3⟩
  have hx3 := box_below HX2.out hb3
  have hy3 := box_below HY2.out hb3
  have ho3 := HO2.out.below hb3 (Nat.le_refl _)
  have hbw3 : Below w.heap.size w w3 := HB2.out.trans (hb3.mono HB2.out.size)
  have hx4 := box_set (j := 2) hx3 (.slice (some ⟨W2.heap.size, 0, none⟩) s.pairs.length s.pairs.length)
  simp only [List.setIfInBounds_toArray, List.set_cons_zero, List.set_cons_succ] at hx4
  have hy4 : (w3.setCell ⟨w.heap.size, 2, none⟩ (.slice (some ⟨W2.heap.size, 0, none⟩) s.pairs.length s.pairs.length)).heap[w.heap.size + 1]? = _ := (heap_setCell_other _ _ _ _ (by simp)).trans hy3
  have hb4 : Below w.heap.size w (w3.setCell ⟨w.heap.size, 2, none⟩ (.slice (some ⟨W2.heap.size, 0, none⟩) s.pairs.length s.pairs.length)) := hbw3.setCell (Nat.le_refl _) _
  have ho4 := ho3.far (b := w.heap.size) (by omega) 2 (.slice (some ⟨W2.heap.size, 0, none⟩) s.pairs.length s.pairs.length)
  have hp4 := prow_far (b := w.heap.size) hown3 (by omega) 2 (.slice (some ⟨W2.heap.size, 0, none⟩) s.pairs.length s.pairs.length)
  obtain ⟨y0, y1, y2, y3, yf, hyl⟩ := box4f hx3
  obtain ⟨W4, hW4⟩ : ∃ W4, W4 = w3.setCell ⟨w.heap.size, 2, none⟩ (.slice (some ⟨W2.heap.size, 0, none⟩) s.pairs.length s.pairs.length) := ⟨_, rfl⟩
  rw [← hW4] at hx4 hy4 hb4 ho4 hp4
  have hz4 : W2.heap.size ≤ W4.heap.size := by rw [hW4]; simpa using hb3.size
  have HX4 := ghid hx4
  have HY4 := ghid hy4
  have HB4 := ghid hb4
  have HO4 := ghid ho4
  have HP4 := ghid hp4
  have HW4 := ghid hW4
  clear x0 x1 x2 x3 xf hxl
  obtain ⟨x0, x1, x2, x3, xf, hxl⟩ := box4f hx4
  clear hx3 hy3 ho3 hbw3 hx4 hy4 hb4 ho4 hp4 hb3 hown3 hW4 HX2 HY2 HO2 HW2
  go_upto_region 3 with fail
  rw [← HW4.out]
  clear y0 y1 y2 y3 yf hyl
  go_wp2_with fail
  refine (CS.out _ HB4.out).mono ?_
  rintro e w5 ⟨rfl, ss, hss, hown5, -, hb5⟩
  have hx5 := box_below HX4.out hb5
  have hy5 := box_below HY4.out hb5
  have ho5 := HO4.out.below hb5 (Nat.le_refl _)
  have hp5 := prow_below HP4.out hb5 (Nat.le_refl _)
  have hbw5 : Below w.heap.size w w5 := HB4.out.trans (hb5.mono HB4.out.size)
  have hx6 := box_set (j := 3) hx5 (.slice (some ⟨W4.heap.size, 0, none⟩) s.sess.length s.sess.length)
  simp only [List.setIfInBounds_toArray, List.set_cons_zero, List.set_cons_succ] at hx6
  have hy6 : (w5.setCell ⟨w.heap.size, 3, none⟩ (.slice (some ⟨W4.heap.size, 0, none⟩) s.sess.length s.sess.length)).heap[w.heap.size + 1]? = _ := (heap_setCell_other _ _ _ _ (by simp)).trans hy5
  have hb6 : Below w.heap.size w (w5.setCell ⟨w.heap.size, 3, none⟩ (.slice (some ⟨W4.heap.size, 0, none⟩) s.sess.length s.sess.length)) := hbw5.setCell (Nat.le_refl _) _
  have ho6 := ho5.far (b := w.heap.size) (by omega) 3 (.slice (some ⟨W4.heap.size, 0, none⟩) s.sess.length s.sess.length)
  have hp6 := prow_far (b := w.heap.size) hp5 (by omega) 3 (.slice (some ⟨W4.heap.size, 0, none⟩) s.sess.length s.sess.length)
  have hs6 := hown5.far (b := w.heap.size) (by omega) 3 (.slice (some ⟨W4.heap.size, 0, none⟩) s.sess.length s.sess.length)
  obtain ⟨y0, y1, y2, y3, yf, hyl⟩ := box4f hx5
  obtain ⟨W6, hW6⟩ : ∃ W6, W6 = w5.setCell ⟨w.heap.size, 3, none⟩ (.slice (some ⟨W4.heap.size, 0, none⟩) s.sess.length s.sess.length) := ⟨_, rfl⟩
  rw [← hW6] at hx6 hy6 hb6 ho6 hp6 hs6
  clear x0 x1 x2 x3 xf hxl
  obtain ⟨x0, x1, x2, x3, xf, hxl⟩ := box4f hx6
  obtain ⟨r0, r1, r2, r3, rf, hrl⟩ := box4f hy6
  have HB6 := ghid hb6
  have HO6 := ghid ho6
  have HP6 := ghid hp6
  have HS6 := ghid hs6
  have HW6 := ghid hW6
  have HSS := ghid hss
  clear hx5 hy5 ho5 hp5 hbw5 hx6 hy6 hb6 ho6 hp6 hs6 hb5 hown5 hW6 hss HX4 HY4 HO4 HP4 HW4 CL CP CS
  go_upto_region 4 with fail
  rw [← HW6.out]
  clear y0 y1 y2 y3 yf hyl
  go_wp2
  refine bodyPost_ret (v := .agg #[.int .i64 s.index, .slice (some ⟨w.heap.size + 1 + 1, 0, none⟩) s.locks.length s.locks.length, .slice (some ⟨W2.heap.size, 0, none⟩) s.pairs.length s.pairs.length, .slice (some ⟨W4.heap.size, 0, none⟩) s.sess.length s.sess.length]) (by simp [results, Try.results29, go_sem, r0, r1, r2, r3]) rfl ⟨_, _, _, _, _, _, _, _, _, rfl, ?_, ?_, ?_, ?_⟩
  · have a := ((((HO6.out.far (b := w.heap.size + 1) (by omega) 0 (.int .i64 s.index)).far (b := w.heap.size + 1) (by omega) 1 (.slice (some ⟨w.heap.size + 1 + 1, 0, none⟩) s.locks.length s.locks.length)).far (b := w.heap.size + 1) (by omega) 2 (.slice (some ⟨W2.heap.size, 0, none⟩) s.pairs.length s.pairs.length)).far (b := w.heap.size + 1) (by omega) 3 (.slice (some ⟨W4.heap.size, 0, none⟩) s.sess.length s.sess.length)).mono (by omega : w.heap.size ≤ w.heap.size + 1 + 1)
    exact ⟨rs, HRS.out, a⟩
  · have a := prow_far (b := w.heap.size + 1) (prow_far (b := w.heap.size + 1) (prow_far (b := w.heap.size + 1) (prow_far (b := w.heap.size + 1) HP6.out (by omega) 0 (.int .i64 s.index)) (by omega) 1 (.slice (some ⟨w.heap.size + 1 + 1, 0, none⟩) s.locks.length s.locks.length)) (by omega) 2 (.slice (some ⟨W2.heap.size, 0, none⟩) s.pairs.length s.pairs.length)) (by omega) 3 (.slice (some ⟨W4.heap.size, 0, none⟩) s.sess.length s.sess.length)
    exact grow_mono a (by omega : w.heap.size ≤ W2.heap.size)
  · have a := ((((HS6.out.far (b := w.heap.size + 1) (by omega) 0 (.int .i64 s.index)).far (b := w.heap.size + 1) (by omega) 1 (.slice (some ⟨w.heap.size + 1 + 1, 0, none⟩) s.locks.length s.locks.length)).far (b := w.heap.size + 1) (by omega) 2 (.slice (some ⟨W2.heap.size, 0, none⟩) s.pairs.length s.pairs.length)).far (b := w.heap.size + 1) (by omega) 3 (.slice (some ⟨W4.heap.size, 0, none⟩) s.sess.length s.sess.length)).mono (by omega : w.heap.size ≤ W4.heap.size)
    exact ⟨ss, HSS.out, a⟩
  · exact (((HB6.out.setCell (by show w.heap.size ≤ w.heap.size + 1; omega) _).setCell (by show w.heap.size ≤ w.heap.size + 1; omega) _).setCell (by show w.heap.size ≤ w.heap.size + 1; omega) _).setCell (by show w.heap.size ≤ w.heap.size + 1; omega) _

/-- The same, in memory that hangs on nothing older. -/
theorem machCopy_new (v : Value) (s : StateD) (w : World) (B : Nat) (hv : StateR w B v s) (hB : B ≤ w.heap.size) :
    Calls Try.prog 29 #[v] w fun e w' => ∃ lo po so ln lc pn pc sn sc, e = .returned (.agg #[.int .i64 s.index, .slice lo ln lc, .slice po pn pc, .slice so sn sc]) ∧ NewR w.heap.size w' (fun u => StateR u u.heap.size (.agg #[.int .i64 s.index, .slice lo ln lc, .slice po pn pc, .slice so sn sc]) s) ∧ Below w.heap.size w w' := by
  obtain ⟨lv, pv, sv, -, -, h2, -⟩ := id hv
  refine (machCopy_rows v s w B hv hB).mono ?_
  rintro e w' ⟨lo, po, so, ln, lc, pn, pc, sn, sc, rfl, ⟨ks, h7, h3⟩, h4, ⟨rs, h5, h6⟩, hb⟩
  refine ⟨lo, po, so, ln, lc, pn, pc, sn, sc, rfl, fun u hu => ⟨_, _, _, rfl, ?_, ?_, ?_⟩, hb⟩
  · rw [← h7]
    exact (h3.keep (fun b hb => hu.block b (h3.row.lt b hb).2 (by have := (h3.row.lt b hb).1; omega)) (fun b hb => hu.block b (h3.lines.lt hb).2 (by have := (h3.lines.lt hb).1; omega))).reads (Nat.le_refl _)
  · exact pairs_reads (prow_keep h4 fun b hb => hu.block b (h4.lt b hb).2 (by have := (h4.lt b hb).1; omega)) h2.modest h2.len (Nat.le_refl _)
  · rw [← h5]
    exact (h6.keep (fun b hb => hu.block b (h6.row.lt b hb).2 (by have := (h6.row.lt b hb).1; omega)) (fun b hb => hu.block b (h6.reps.lt hb).2 (by have := (h6.reps.lt hb).1; omega))).reads (Nat.le_refl _)

end Go.Proofs.Ytbmfahgekcnkaai

namespace Go.Proofs.Ytbmfahgekcnkaai

open Go.RowKit

set_option maxHeartbeats 400000 in
theorem sameInts_eq (v u : Value) (xs : List Int) (w : World) (B B' : Nat) (hv : IntsR w B v xs) (hu : IntsR w B' u xs) :
    Calls Try.prog 70 #[v, u] w fun e w' => e = .returned (.bool true) ∧ ∃ n, w' = w.drewN n := by
  obtain ⟨ao, cap, rfl, h1, h2, h3, h4⟩ := hv
  obtain ⟨au, cau, rfl, g1, g2, g3, g4⟩ := hu
  go_enter Try.func70, Try.ntmps70
  go_wp2
  go_loopw [5] (fun i wr => ∃ k n : Nat, k ≤ xs.length ∧ i = .int .i64 k ∧ wr = w.drewN n) (fun i _ => xs.length - (intOf i).toNat)
  case atStart => exact ⟨0, 0, Nat.zero_le _, rfl, rfl⟩
  case round =>
    obtain ⟨k, n, hk, rfl, rfl⟩ := hrel
    by_cases hlt : k < xs.length
    · obtain ⟨b, off, rfl, hb, hc⟩ := h4 (by omega)
      obtain ⟨b', off', rfl, hb', hc'⟩ := g4 (by omega)
      obtain ⟨y, hy⟩ : ∃ y, xs[k]? = some y := ⟨_, List.getElem?_eq_getElem hlt⟩
      have hcell := hc k y hy
      have hcell' := hc' k y hy
      clear hy hc h4 hc' g4
      go_wp2
      go_quiet (fail)
      go_wp2
      go_roundw
      case rel => exact ⟨k + 1, _, by omega, by go_num, rfl⟩
      case measure => simp [intOf]; omega
    · go_wp2
      go_ret
      exact ⟨rfl, n, rfl⟩

end Go.Proofs.Ytbmfahgekcnkaai
