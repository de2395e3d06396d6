/- machine.Copy; command.Decode, at every text; machine.next, machine.Apply; Commands in memory, and a map of numbers by numbers; what holds of commands that come of raw things; codec.Number and the document's NumberBytes: both return the digits of a number from 0 to 2^40, and refuse all others; codec.Text and the document's TextBytes: the length as a number and the text itself, up to 5000 bytes; longer ones are refused; The bytes of a command. It imports no program of its own; strings.Builder: a text is put behind what it has; all of it is told; by the shelf's contracts; Builders: what stands when other memory is made; command.callBytes: what a Call has behind its head, as bytes; command.Encode: a command's bytes, or what is wrong with it; What codec.Number writes is in form: it is counted, read and refused as it must be, whatever stands behind it (joined by program) -/
import Derived.BigRegion
import Derived.Test.YtijilhbdbeajjaaGreatDoorRows
import Derived.WalkKit
import Derived.ProofKit
import Derived.WalkLawsBesides
import Derived.Maps.Own
import Derived.Maps.OwnOps
import Derived.Maps.OwnSet
import Derived.Deep.AppendLies
import Derived.Laws.Rows
import Derived.OwnWalk
import Derived.OpenShut
import Derived.ShutString
import Derived.Outline
import Derived.Laws.BytesArg
import Derived.WalkSpells
import Derived.Shelf.Strings.BuilderK
import Derived.Test.YtijilhbdbeajjaaGreatDoorTT01
import Derived.Test.YtijilhbdbeajjaaGreatDoorTT03
import Derived.Test.YtijilhbdbeajjaaGreatDoorTT18
import Derived.Test.YtijilhbdbeajjaaGreatDoorTT38
import Derived.Test.YtijilhbdbeajjaaGreatDoorTT35
import Derived.Test.YtijilhbdbeajjaaGreatDoorTT36
import Derived.Test.YtijilhbdbeajjaaGreatDoorTT37
import Derived.Test.YtijilhbdbeajjaaGreatDoorTT00
import Derived.Test.YtijilhbdbeajjaaGreatDoorTT34
import Derived.Test.YtijilhbdbeajjaaGreatDoorTT32
namespace Go.Proofs.YtijilhbdbeajjaaGreatDoor

open Go.RowKit

/-- What lies in a new block is kept by a callee that leaves all that lay. -/
theorem box_below {w w' : World} {b : Nat} {o : Obj} (h : w.heap[b]? = some o) (hb : Below w.heap.size w w') : w'.heap[b]? = some o :=
  (hb.block b (Array.getElem?_eq_some_iff.1 h).1).trans h

theorem box_set {w : World} {p j : Nat} {cs : Array Value} {t : TypeId} (h : w.heap[p]? = some (.cells cs t (0, 0))) (u : Value) : (w.setCell ⟨p, j, none⟩ u).heap[p]? = some (.cells (cs.setIfInBounds j u) t (0, 0)) := by
  simp only [World.setCell]
  rw [Array.getElem?_modify, h]
  simp

/-- What the walk wants of a block of four cells. -/
theorem box4f {w : World} {p : Nat} {x0 x1 x2 x3 : Value} {t : TypeId} (h : w.heap[p]? = some (.cells #[x0, x1, x2, x3] t (0, 0))) :
    w.cell? ⟨p, 0, none⟩ = some x0 ∧ w.cell? ⟨p, 1, none⟩ = some x1 ∧ w.cell? ⟨p, 2, none⟩ = some x2 ∧ w.cell? ⟨p, 3, none⟩ = some x3 ∧ (∀ j, w.frozen? ⟨p, j, none⟩ = false) ∧ p < w.heap.size :=
  ⟨cell_of_row w p 0 _ _ _ h, cell_of_row w p 1 _ _ _ h, cell_of_row w p 2 _ _ _ h, cell_of_row w p 3 _ _ _ h, fun j => frozen_of_row w p j _ _ h, (Array.getElem?_eq_some_iff.1 h).1⟩

theorem OwnL.far {w : World} {base b : Nat} {v : Value} {rs : List (LockD × Value)} (h : OwnL w base v rs) (hb : b < base) (j : Nat) (u : Value) : OwnL (w.setCell ⟨b, j, none⟩ u) base v rs := by
  refine h.keep (fun c hc => heap_setCell_other _ _ _ _ ?_) (fun c hc => heap_setCell_other _ _ _ _ ?_)
  · have := (h.row.lt c hc).1
    simp only
    omega
  · have := (h.lines.lt hc).1
    simp only
    omega

theorem OwnS.far {w : World} {base b : Nat} {v : Value} {rs : List (SessD × Value)} (h : OwnS w base v rs) (hb : b < base) (j : Nat) (u : Value) : OwnS (w.setCell ⟨b, j, none⟩ u) base v rs := by
  refine h.keep (fun c hc => heap_setCell_other _ _ _ _ ?_) (fun c hc => heap_setCell_other _ _ _ _ ?_)
  · have := (h.row.lt c hc).1
    simp only
    omega
  · have := (h.reps.lt hc).1
    simp only
    omega

theorem prow_far {w : World} {base b : Nat} {e : TypeId} {size n : Nat} {v : Value} {xs : List Value} (h : w.ownsRow base e size v n xs) (hb : b < base) (j : Nat) (u : Value) : (w.setCell ⟨b, j, none⟩ u).ownsRow base e size v n xs :=
  prow_keep h fun c hc => heap_setCell_other _ _ _ _ (by have := (h.lt c hc).1; simp only; omega)

set_option maxRecDepth 100000 in
set_option maxHeartbeats 1600000 in
theorem machCopy_rows (v : Value) (s : StateD) (w : World) (B : Nat) (hv : StateR w B v s) (hB : B ≤ w.heap.size) :
    Calls Tryz.prog 59 #[v] w fun e w' => ∃ lo po so ln lc pn pc sn sc, e = .returned (.agg #[.int .i64 s.index, .slice lo ln lc, .slice po pn pc, .slice so sn sc]) ∧ LocksO w' w.heap.size (.slice lo ln lc) s.locks ∧ w'.ownsRow w.heap.size 89 3 (.slice po pn pc) s.pairs.length (flatP s.pairs) ∧ (∃ rs, rs.map (·.1) = s.sess ∧ OwnS w' w.heap.size (.slice so sn sc) rs) ∧ Below w.heap.size w w' := by
  obtain ⟨lv, pv, sv, rfl, h1, h2, h3⟩ := hv
  have CL := ghid (fun (w' : World) (hb : Below w.heap.size w w') => copy_any lv s.locks w' B (h1.below hb hB) (by have := hb.size; omega))
  have CP := ghid (fun (w' : World) (hb : Below w.heap.size w w') => mcopyPairs_any pv s.pairs w' B (h2.below hb hB) (by have := hb.size; omega))
  have CS := ghid (fun (w' : World) (hb : Below w.heap.size w w') => sessCopy_any sv s.sess w' B (h3.below hb hB) (by have := hb.size; omega))
  obtain ⟨lo, lc, rfl⟩ := h1.slice
  obtain ⟨po, pc, rfl⟩ := h2.slice
  obtain ⟨so, sc, rfl⟩ := h3.slice
  have hb0 : Below w.heap.size w ((w.alloc (.cells #[.int .i64 s.index, .slice lo s.locks.length lc, .slice po s.pairs.length pc, .slice so s.sess.length sc] 48)).alloc (.cells #[.int .i64 0, .slice none 0 0, .slice none 0 0, .slice none 0 0] 48)) := ((Below.refl w.heap.size w).alloc (Nat.le_refl _) _).alloc (by simp) _
  have hbx : ((w.alloc (.cells #[.int .i64 s.index, .slice lo s.locks.length lc, .slice po s.pairs.length pc, .slice so s.sess.length sc] 48)).alloc (.cells #[.int .i64 0, .slice none 0 0, .slice none 0 0, .slice none 0 0] 48)).heap[w.heap.size]? = some (.cells #[.int .i64 s.index, .slice lo s.locks.length lc, .slice po s.pairs.length pc, .slice so s.sess.length sc] 48 (0, 0)) := by
    rw [Below.heap_alloc _ _ _ (by simp)]
    exact heap_alloc_new w _
  have hry : ((w.alloc (.cells #[.int .i64 s.index, .slice lo s.locks.length lc, .slice po s.pairs.length pc, .slice so s.sess.length sc] 48)).alloc (.cells #[.int .i64 0, .slice none 0 0, .slice none 0 0, .slice none 0 0] 48)).heap[w.heap.size + 1]? = some (.cells #[.int .i64 0, .slice none 0 0, .slice none 0 0, .slice none 0 0] 48 (0, 0)) := by
    have := heap_alloc_new (w.alloc (.cells #[.int .i64 s.index, .slice lo s.locks.length lc, .slice po s.pairs.length pc, .slice so s.sess.length sc] 48)) (.cells #[.int .i64 0, .slice none 0 0, .slice none 0 0, .slice none 0 0] 48)
    rwa [World.size_alloc] at this
  have HB0 := ghid hb0
  have HX0 := ghid hbx
  have HY0 := ghid hry
  clear h1 h2 h3 hb0 hbx hry
  go_enter Tryz.func59, Tryz.ntmps59
  go_wp2_with fail
  refine (CL.out _ HB0.out).mono ?_
  rintro e w1 ⟨rfl, rs, hrs, hown1, hb1⟩
  simp only [World.size_alloc] at hown1 hb1 ⊢
  have hx1 := box_below HX0.out (by simpa using hb1)
  have hy1 := box_below HY0.out (by simpa using hb1)
  have hzA : w.heap.size + 2 ≤ w1.heap.size := by have := hb1.size; simp at this; omega
  have hbw1 : Below w.heap.size w w1 := HB0.out.trans (hb1.mono (by omega))
  have hx2 := box_set (j := 1) hx1 (.slice (some ⟨w.heap.size + 1 + 1, 0, none⟩) s.locks.length s.locks.length)
  have hy2 : (w1.setCell ⟨w.heap.size, 1, none⟩ (.slice (some ⟨w.heap.size + 1 + 1, 0, none⟩) s.locks.length s.locks.length)).heap[w.heap.size + 1]? = _ := (heap_setCell_other _ _ _ _ (by simp)).trans hy1
  have hb2 : Below w.heap.size w (w1.setCell ⟨w.heap.size, 1, none⟩ (.slice (some ⟨w.heap.size + 1 + 1, 0, none⟩) s.locks.length s.locks.length)) := hbw1.setCell (Nat.le_refl _) _
  have ho2 := hown1.far (b := w.heap.size) (by omega) 1 (.slice (some ⟨w.heap.size + 1 + 1, 0, none⟩) s.locks.length s.locks.length)
  simp only [List.setIfInBounds_toArray, List.set_cons_zero, List.set_cons_succ] at hx2
  obtain ⟨y0, y1, y2, y3, yf, hyl⟩ := box4f hx1
  obtain ⟨W2, hW2⟩ : ∃ W2, W2 = w1.setCell ⟨w.heap.size, 1, none⟩ (.slice (some ⟨w.heap.size + 1 + 1, 0, none⟩) s.locks.length s.locks.length) := ⟨_, rfl⟩
  rw [← hW2] at hx2 hy2 hb2 ho2
  have hz2 : w1.heap.size ≤ W2.heap.size := by rw [hW2]; simp
  have HX2 := ghid hx2
  have HY2 := ghid hy2
  have HB2 := ghid hb2
  have HO2 := ghid ho2
  have HW2 := ghid hW2
  have HRS := ghid hrs
  obtain ⟨x0, x1, x2, x3, xf, hxl⟩ := box4f hx2
  clear hx1 hy1 hx2 hy2 hb2 ho2 hb1 hbw1 hown1 hrs hW2
  go_upto_region 2 with fail
  rw [← HW2.out]
  clear y0 y1 y2 y3 yf hyl
  go_wp2_with fail
  refine (CP.out _ HB2.out).mono ?_
  rintro e w3 ⟨rfl, hown3, hb3⟩
  have hx3 := box_below HX2.out hb3
  have hy3 := box_below HY2.out hb3
  have ho3 := HO2.out.below hb3 (Nat.le_refl _)
  have hbw3 : Below w.heap.size w w3 := HB2.out.trans (hb3.mono HB2.out.size)
  have hx4 := box_set (j := 2) hx3 (.slice (some ⟨W2.heap.size, 0, none⟩) s.pairs.length s.pairs.length)
  simp only [List.setIfInBounds_toArray, List.set_cons_zero, List.set_cons_succ] at hx4
  have hy4 : (w3.setCell ⟨w.heap.size, 2, none⟩ (.slice (some ⟨W2.heap.size, 0, none⟩) s.pairs.length s.pairs.length)).heap[w.heap.size + 1]? = _ := (heap_setCell_other _ _ _ _ (by simp)).trans hy3
  have hb4 : Below w.heap.size w (w3.setCell ⟨w.heap.size, 2, none⟩ (.slice (some ⟨W2.heap.size, 0, none⟩) s.pairs.length s.pairs.length)) := hbw3.setCell (Nat.le_refl _) _
  have ho4 := ho3.far (b := w.heap.size) (by omega) 2 (.slice (some ⟨W2.heap.size, 0, none⟩) s.pairs.length s.pairs.length)
  have hp4 := prow_far (b := w.heap.size) hown3 (by omega) 2 (.slice (some ⟨W2.heap.size, 0, none⟩) s.pairs.length s.pairs.length)
  obtain ⟨y0, y1, y2, y3, yf, hyl⟩ := box4f hx3
  obtain ⟨W4, hW4⟩ : ∃ W4, W4 = w3.setCell ⟨w.heap.size, 2, none⟩ (.slice (some ⟨W2.heap.size, 0, none⟩) s.pairs.length s.pairs.length) := ⟨_, rfl⟩
  rw [← hW4] at hx4 hy4 hb4 ho4 hp4
  have hz4 : W2.heap.size ≤ W4.heap.size := by rw [hW4]; simpa using hb3.size
  have HX4 := ghid hx4
  have HY4 := ghid hy4
  have HB4 := ghid hb4
  have HO4 := ghid ho4
  have HP4 := ghid hp4
  have HW4 := ghid hW4
  clear x0 x1 x2 x3 xf hxl
  obtain ⟨x0, x1, x2, x3, xf, hxl⟩ := box4f hx4
  clear hx3 hy3 ho3 hbw3 hx4 hy4 hb4 ho4 hp4 hb3 hown3 hW4 HX2 HY2 HO2 HW2
  go_upto_region 3 with fail
  rw [← HW4.out]
  clear y0 y1 y2 y3 yf hyl
  go_wp2_with fail
  refine (CS.out _ HB4.out).mono ?_
  rintro e w5 ⟨rfl, ss, hss, hown5, -, hb5⟩
  have hx5 := box_below HX4.out hb5
  have hy5 := box_below HY4.out hb5
  have ho5 := HO4.out.below hb5 (Nat.le_refl _)
  have hp5 := prow_below HP4.out hb5 (Nat.le_refl _)
  have hbw5 : Below w.heap.size w w5 := HB4.out.trans (hb5.mono HB4.out.size)
  have hx6 := box_set (j := 3) hx5 (.slice (some ⟨W4.heap.size, 0, none⟩) s.sess.length s.sess.length)
  simp only [List.setIfInBounds_toArray, List.set_cons_zero, List.set_cons_succ] at hx6
  have hy6 : (w5.setCell ⟨w.heap.size, 3, none⟩ (.slice (some ⟨W4.heap.size, 0, none⟩) s.sess.length s.sess.length)).heap[w.heap.size + 1]? = _ := (heap_setCell_other _ _ _ _ (by simp)).trans hy5
  have hb6 : Below w.heap.size w (w5.setCell ⟨w.heap.size, 3, none⟩ (.slice (some ⟨W4.heap.size, 0, none⟩) s.sess.length s.sess.length)) := hbw5.setCell (Nat.le_refl _) _
  have ho6 := ho5.far (b := w.heap.size) (by omega) 3 (.slice (some ⟨W4.heap.size, 0, none⟩) s.sess.length s.sess.length)
  have hp6 := prow_far (b := w.heap.size) hp5 (by omega) 3 (.slice (some ⟨W4.heap.size, 0, none⟩) s.sess.length s.sess.length)
  have hs6 := hown5.far (b := w.heap.size) (by omega) 3 (.slice (some ⟨W4.heap.size, 0, none⟩) s.sess.length s.sess.length)
  obtain ⟨y0, y1, y2, y3, yf, hyl⟩ := box4f hx5
  obtain ⟨W6, hW6⟩ : ∃ W6, W6 = w5.setCell ⟨w.heap.size, 3, none⟩ (.slice (some ⟨W4.heap.size, 0, none⟩) s.sess.length s.sess.length) := ⟨_, rfl⟩
  rw [← hW6] at hx6 hy6 hb6 ho6 hp6 hs6
  clear x0 x1 x2 x3 xf hxl
  obtain ⟨x0, x1, x2, x3, xf, hxl⟩ := box4f hx6
  obtain ⟨r0, r1, r2, r3, rf, hrl⟩ := box4f hy6
  have HB6 := ghid hb6
  have HO6 := ghid ho6
  have HP6 := ghid hp6
  have HS6 := ghid hs6
  have HW6 := ghid hW6
  have HSS := ghid hss
  clear hx5 hy5 ho5 hp5 hbw5 hx6 hy6 hb6 ho6 hp6 hs6 hb5 hown5 hW6 hss HX4 HY4 HO4 HP4 HW4 CL CP CS
  go_upto_region 4 with fail
  rw [← HW6.out]
  clear y0 y1 y2 y3 yf hyl
  go_wp2
  refine bodyPost_ret (v := .agg #[.int .i64 s.index, .slice (some ⟨w.heap.size + 1 + 1, 0, none⟩) s.locks.length s.locks.length, .slice (some ⟨W2.heap.size, 0, none⟩) s.pairs.length s.pairs.length, .slice (some ⟨W4.heap.size, 0, none⟩) s.sess.length s.sess.length]) (by simp [results, Tryz.results59, go_sem, r0, r1, r2, r3]) rfl ⟨_, _, _, _, _, _, _, _, _, rfl, ?_, ?_, ?_, ?_⟩
  · have a := ((((HO6.out.far (b := w.heap.size + 1) (by omega) 0 (.int .i64 s.index)).far (b := w.heap.size + 1) (by omega) 1 (.slice (some ⟨w.heap.size + 1 + 1, 0, none⟩) s.locks.length s.locks.length)).far (b := w.heap.size + 1) (by omega) 2 (.slice (some ⟨W2.heap.size, 0, none⟩) s.pairs.length s.pairs.length)).far (b := w.heap.size + 1) (by omega) 3 (.slice (some ⟨W4.heap.size, 0, none⟩) s.sess.length s.sess.length)).mono (by omega : w.heap.size ≤ w.heap.size + 1 + 1)
    exact ⟨rs, HRS.out, a⟩
  · have a := prow_far (b := w.heap.size + 1) (prow_far (b := w.heap.size + 1) (prow_far (b := w.heap.size + 1) (prow_far (b := w.heap.size + 1) HP6.out (by omega) 0 (.int .i64 s.index)) (by omega) 1 (.slice (some ⟨w.heap.size + 1 + 1, 0, none⟩) s.locks.length s.locks.length)) (by omega) 2 (.slice (some ⟨W2.heap.size, 0, none⟩) s.pairs.length s.pairs.length)) (by omega) 3 (.slice (some ⟨W4.heap.size, 0, none⟩) s.sess.length s.sess.length)
    exact grow_mono a (by omega : w.heap.size ≤ W2.heap.size)
  · have a := ((((HS6.out.far (b := w.heap.size + 1) (by omega) 0 (.int .i64 s.index)).far (b := w.heap.size + 1) (by omega) 1 (.slice (some ⟨w.heap.size + 1 + 1, 0, none⟩) s.locks.length s.locks.length)).far (b := w.heap.size + 1) (by omega) 2 (.slice (some ⟨W2.heap.size, 0, none⟩) s.pairs.length s.pairs.length)).far (b := w.heap.size + 1) (by omega) 3 (.slice (some ⟨W4.heap.size, 0, none⟩) s.sess.length s.sess.length)).mono (by omega : w.heap.size ≤ W4.heap.size)
    exact ⟨ss, HSS.out, a⟩
  · exact (((HB6.out.setCell (by show w.heap.size ≤ w.heap.size + 1; omega) _).setCell (by show w.heap.size ≤ w.heap.size + 1; omega) _).setCell (by show w.heap.size ≤ w.heap.size + 1; omega) _).setCell (by show w.heap.size ≤ w.heap.size + 1; omega) _

theorem machCopy_any (v : Value) (s : StateD) (w : World) (B : Nat) (hv : StateR w B v s) (hB : B ≤ w.heap.size) :
    Calls Tryz.prog 59 #[v] w fun e w' => ∃ lo po so ln lc pn pc sn sc, e = .returned (.agg #[.int .i64 s.index, .slice lo ln lc, .slice po pn pc, .slice so sn sc]) ∧ LocksO w' 0 (.slice lo ln lc) s.locks ∧ PairsR w' w'.heap.size (.slice po pn pc) s.pairs ∧ SessR w' w'.heap.size (.slice so sn sc) s.sess ∧ Below w.heap.size w w' := by
  obtain ⟨lv, pv, sv, -, -, h2, -⟩ := id hv
  refine (machCopy_rows v s w B hv hB).mono ?_
  rintro e w' ⟨lo, po, so, ln, lc, pn, pc, sn, sc, rfl, h3, h4, ⟨rs, h5, h6⟩, hb⟩
  exact ⟨lo, po, so, ln, lc, pn, pc, sn, sc, rfl, h3.mono (Nat.zero_le _), pairs_reads h4 h2.modest h2.len (Nat.le_refl _), h5 ▸ h6.reads (Nat.le_refl _), hb⟩

end Go.Proofs.YtijilhbdbeajjaaGreatDoor

namespace Go.Proofs.YtijilhbdbeajjaaGreatDoor

open Go.RowKit

set_option maxRecDepth 100000 in
set_option maxHeartbeats 1600000 in
theorem decode_long (s : ByteArray) (w : World) (hs : s.size ≤ 140737488351232) (h : 5000 < s.size) :
    Calls Tryz.prog 25 #[.string s] w fun e w' => e = .returned (.tuple #[cmdV CmdD.zero, .int .i64 1]) ∧ Below w.heap.size w w' := by
  have hb0 : Below w.heap.size w (w.alloc (.cells #[.int .i64 0, .int .i64 0, .int .i64 0, .int .i64 0, .int .i64 0, .int .i64 0, .string ⟨#[]⟩, .string ⟨#[]⟩, .int .i64 0] 67)) := (Below.refl _ _).alloc (Nat.le_refl _) _
  have HB := chid hb0
  clear hb0
  go_enter Tryz.func25, Tryz.ntmps25
  go_wp2
  refine bodyPost_ret (v := .tuple #[.agg #[.int .i64 0, .int .i64 0, .int .i64 0, .int .i64 0, .int .i64 0, .int .i64 0, .string ⟨#[]⟩, .string ⟨#[]⟩, .int .i64 0], .int .i64 1]) (by simp [results, Tryz.results25, go_sem]) rfl ⟨rfl, ?_⟩
  first
    | exact HB.out
    | exact below_set9 HB.out (Nat.le_refl _) _ _ _ _ _ _ _ _ _

set_option maxRecDepth 100000 in
set_option maxHeartbeats 1600000 in
theorem decode_short (s : ByteArray) (w : World) (h : s.size < 2) :
    Calls Tryz.prog 25 #[.string s] w fun e w' => e = .returned (.tuple #[cmdV CmdD.zero, .int .i64 5]) ∧ Below w.heap.size w w' := by
  have hb0 : Below w.heap.size w (w.alloc (.cells #[.int .i64 0, .int .i64 0, .int .i64 0, .int .i64 0, .int .i64 0, .int .i64 0, .string ⟨#[]⟩, .string ⟨#[]⟩, .int .i64 0] 67)) := (Below.refl _ _).alloc (Nat.le_refl _) _
  have HB := chid hb0
  clear hb0
  go_enter Tryz.func25, Tryz.ntmps25
  go_wp2
  refine bodyPost_ret (v := .tuple #[.agg #[.int .i64 0, .int .i64 0, .int .i64 0, .int .i64 0, .int .i64 0, .int .i64 0, .string ⟨#[]⟩, .string ⟨#[]⟩, .int .i64 0], .int .i64 5]) (by simp [results, Tryz.results25, go_sem]) rfl ⟨rfl, ?_⟩
  first
    | exact HB.out
    | exact below_set9 HB.out (Nat.le_refl _) _ _ _ _ _ _ _ _ _

/-- DECODE, AT EVERY TEXT. -/
theorem decode_any (s : ByteArray) (w : World) (hs : s.size ≤ 140737488351232) :
    Calls Tryz.prog 25 #[.string s] w fun e w' => e = .returned (.tuple #[cmdV (decL s), .int .i64 (decE s)]) ∧ Below w.heap.size w w' := by
  by_cases h1 : 5000 < s.size
  · have e : decE s = 1 := if_pos h1
    have l : decL s = CmdD.zero := by unfold decL; rw [if_neg (by omega)]
    rw [e, l]
    exact decode_long s w hs h1
  · by_cases h2 : s.size < 2
    · have e : decE s = 5 := by unfold decE; rw [if_neg h1, if_pos h2]
      have l : decL s = CmdD.zero := by unfold decL; rw [if_neg (by omega)]
      rw [e, l]
      exact decode_short s w h2
    · exact decode_rest s w (by omega) (by omega)

end Go.Proofs.YtijilhbdbeajjaaGreatDoor

namespace Go.Proofs.YtijilhbdbeajjaaGreatDoor

open Go.RowKit

/-- What Apply refuses. -/
def nextE (s : StateD) (t : ByteArray) : Int := if checkM s ≠ 0 then checkM s else if s.index = 1073741824 then 2 else decE t

/-- The next command. -/
def nextL (s : StateD) (t : ByteArray) : CmdD := if checkM s = 0 ∧ s.index ≠ 1073741824 then decL t else CmdD.zero

theorem nextE_zero {s : StateD} {t : ByteArray} (h : nextE s t = 0) : checkM s = 0 ∧ s.index ≠ 1073741824 ∧ decE t = 0 := by
  unfold nextE at h
  by_cases h1 : checkM s = 0
  · rw [if_neg (by simpa using h1)] at h
    by_cases h2 : s.index = 1073741824
    · rw [if_pos h2] at h; cases h
    · rw [if_neg h2] at h
      exact ⟨h1, h2, h⟩
  · rw [if_pos h1] at h
    exact absurd h h1

theorem decL_err {t : ByteArray} (h : decE t = 0) : (decL t).err = 0 := by
  have hd : decL t = (decBody t).1 := by unfold decL; rw [if_pos h]
  rw [hd]
  unfold decE at h
  by_cases h1 : 5000 < t.size
  · rw [if_pos h1] at h; cases h
  · rw [if_neg h1] at h
    by_cases h2 : t.size < 2
    · rw [if_pos h2] at h; cases h
    · rw [if_neg h2] at h
      by_cases h3 : endE (decBody t).2 ≠ 0
      · rw [if_pos h3] at h; exact absurd h h3
      · rw [if_neg h3] at h; exact h

theorem below9 {B b : Nat} {w w1 : World} (h : Below B w w1) (hb : B ≤ b) (x0 x1 x2 x3 x4 x5 x6 x7 x8 : Value) : Below B w (((((((((w1.setCell ⟨b, 0, none⟩ x0).setCell ⟨b, 1, none⟩ x1).setCell ⟨b, 2, none⟩ x2).setCell ⟨b, 3, none⟩ x3).setCell ⟨b, 4, none⟩ x4).setCell ⟨b, 5, none⟩ x5).setCell ⟨b, 6, none⟩ x6).setCell ⟨b, 7, none⟩ x7).setCell ⟨b, 8, none⟩ x8) :=
  ((((((((h.setCell hb x0).setCell hb x1).setCell hb x2).setCell hb x3).setCell hb x4).setCell hb x5).setCell hb x6).setCell hb x7).setCell hb x8

set_option maxRecDepth 100000 in
set_option maxHeartbeats 1600000 in
theorem next_any (v : Value) (s : StateD) (t : ByteArray) (w : World) (B : Nat) (hv : StateR w B v s) (hB : B ≤ w.heap.size) (ht : t.size ≤ 140737488351232) :
    Calls Tryz.prog 58 #[v, .string t] w fun e w' => e = .returned (.tuple #[cmdV (nextL s t), .int .i64 (nextE s t)]) ∧ Below w.heap.size w w' := by
  have CC := ghid (fun (w' : World) (hb : Below w.heap.size w w') => machCheck_any v s w' B (hv.below hb hB) (by have := hb.size; omega))
  have CD := ghid (fun (w' : World) => decode_any t w' ht)
  obtain ⟨lv, pv, sv, rfl, h1, h2, h3⟩ := hv
  obtain ⟨lo, lc, rfl⟩ := h1.slice
  obtain ⟨po, pc, rfl⟩ := h2.slice
  obtain ⟨so, sc, rfl⟩ := h3.slice
  clear h1 h2 h3
  obtain ⟨ln, hln⟩ : ∃ n, n = s.locks.length := ⟨_, rfl⟩
  obtain ⟨pn, hpn⟩ : ∃ n, n = s.pairs.length := ⟨_, rfl⟩
  obtain ⟨sn, hsn⟩ : ∃ n, n = s.sess.length := ⟨_, rfl⟩
  obtain ⟨ix, hix⟩ : ∃ n, n = s.index := ⟨_, rfl⟩
  obtain ⟨c0, hc0⟩ : ∃ n, n = checkM s := ⟨_, rfl⟩
  rw [← hln, ← hpn, ← hsn, ← hix, ← hc0] at CC
  rw [← hln, ← hpn, ← hsn, ← hix]
  have HC : Hid ((c0 ≠ 0 ∧ nextL s t = CmdD.zero ∧ nextE s t = c0) ∨ (c0 = 0 ∧ ix = 1073741824 ∧ nextL s t = CmdD.zero ∧ nextE s t = 2) ∨ (c0 = 0 ∧ ix ≠ 1073741824 ∧ nextL s t = decL t ∧ nextE s t = decE t)) := by
    unfold Hid nextL nextE
    rw [← hc0, ← hix]
    by_cases a : c0 = 0
    · by_cases b : ix = 1073741824
      · exact Or.inr (Or.inl ⟨a, b, by simp [b], by simp [a, b]⟩)
      · exact Or.inr (Or.inr ⟨a, b, by simp [a, b], by simp [a, b]⟩)
    · exact Or.inl ⟨a, by simp [a], by simp [a]⟩
  obtain ⟨nl, hnl⟩ : ∃ n, n = nextL s t := ⟨_, rfl⟩
  obtain ⟨ne, hne⟩ : ∃ n, n = nextE s t := ⟨_, rfl⟩
  rw [← hnl, ← hne] at HC ⊢
  obtain ⟨dl, hdl⟩ : ∃ n, n = decL t := ⟨_, rfl⟩
  obtain ⟨de, hde⟩ : ∃ n, n = decE t := ⟨_, rfl⟩
  rw [← hdl, ← hde] at HC CD
  have HB0 : Hid (Below w.heap.size w ((w.alloc (.cells #[.int .i64 ix, .slice lo ln lc, .slice po pn pc, .slice so sn sc] 48)).alloc (.cells #[.int .i64 0, .int .i64 0, .int .i64 0, .int .i64 0, .int .i64 0, .int .i64 0, .string ⟨#[]⟩, .string ⟨#[]⟩, .int .i64 0] 67))) := ((Below.refl w.heap.size w).alloc (Nat.le_refl _) _).alloc (by simp) _
  clear hln hpn hsn hix hc0 hnl hne hdl hde
  rcases HC.out with ⟨a, rfl, rfl⟩ | ⟨a, b, rfl, rfl⟩ | ⟨a, b, rfl, rfl⟩
  · have hn : (ne != 0) = true := by simpa using a
    clear HC a
    go_enter Tryz.func58, Tryz.ntmps58
    go_wp2_with fail
    refine (CC.out _ HB0.out).mono ?_
    rintro e w1 ⟨rfl, hb1⟩
    obtain ⟨hr1, -⟩ := two_newB (show Below (w.heap.size + 2) _ w1 from hb1.mono (by simp))
    obtain ⟨m0, m1, m2, m3, m4, m5, m6, m7, m8, hml⟩ := cmd_cells hr1
    have mf : ∀ j, w1.frozen? ⟨w.heap.size + 1, j, none⟩ = false := fun j => frozen_of_row w1 _ j _ _ hr1
    have HB1 := ghid (HB0.out.trans (hb1.mono (by simp; omega)))
    clear hb1 hr1
    go_wp2
    exact bodyPost_ret (v := .tuple #[cmdV CmdD.zero, .int .i64 ne]) (by simp [results, Tryz.results58, go_sem, cmdV, CmdD.zero, m0, m1, m2, m3, m4, m5, m6, m7, m8]) rfl ⟨rfl, below9 HB1.out (by omega) _ _ _ _ _ _ _ _ _⟩
  · subst a b
    clear HC
    go_enter Tryz.func58, Tryz.ntmps58
    go_wp2_with fail
    refine (CC.out _ HB0.out).mono ?_
    rintro e w1 ⟨rfl, hb1⟩
    obtain ⟨hr1, hs1⟩ := two_newB (show Below (w.heap.size + 2) _ w1 from hb1.mono (by simp))
    obtain ⟨m0, m1, m2, m3, m4, m5, m6, m7, m8, hml⟩ := cmd_cells hr1
    obtain ⟨s0, s1, s2, s3, sf, hsl⟩ := state_cells hs1
    have mf : ∀ j, w1.frozen? ⟨w.heap.size + 1, j, none⟩ = false := fun j => frozen_of_row w1 _ j _ _ hr1
    have HB1 := ghid (HB0.out.trans (hb1.mono (by simp; omega)))
    clear hb1 hr1 hs1
    go_wp2
    exact bodyPost_ret (v := .tuple #[cmdV CmdD.zero, .int .i64 2]) (by simp [results, Tryz.results58, go_sem, cmdV, CmdD.zero, m0, m1, m2, m3, m4, m5, m6, m7, m8]) rfl ⟨rfl, below9 HB1.out (by omega) _ _ _ _ _ _ _ _ _⟩
  · subst a
    have hn : (ix == 1073741824) = false := by simpa using b
    clear HC b
    go_enter Tryz.func58, Tryz.ntmps58
    go_wp2_with fail
    refine (CC.out _ HB0.out).mono ?_
    rintro e w1 ⟨rfl, hb1⟩
    obtain ⟨hr1, hs1⟩ := two_newB (show Below (w.heap.size + 2) _ w1 from hb1.mono (by simp))
    obtain ⟨m0, m1, m2, m3, m4, m5, m6, m7, m8, hml⟩ := cmd_cells hr1
    obtain ⟨s0, s1, s2, s3, sf, hsl⟩ := state_cells hs1
    have mf : ∀ j, w1.frozen? ⟨w.heap.size + 1, j, none⟩ = false := fun j => frozen_of_row w1 _ j _ _ hr1
    have HB1 := ghid (HB0.out.trans (hb1.mono (by simp; omega)))
    have HR1 := ghid hr1
    clear hb1 hr1 hs1 m0 m1 m2 m3 m4 m5 m6 m7 m8 mf hml
    go_wp2_with fail
    refine (CD.out _).mono ?_
    rintro e w2 ⟨rfl, hb2⟩
    have hr2 := behind HR1.out (Below.refl _ _) hb2
    obtain ⟨m0, m1, m2, m3, m4, m5, m6, m7, m8, hml⟩ := cmd_cells hr2
    have mf : ∀ j, w2.frozen? ⟨w.heap.size + 1, j, none⟩ = false := fun j => frozen_of_row w2 _ j _ _ hr2
    have HB2 := ghid (HB1.out.trans (hb2.mono HB1.out.size))
    obtain ⟨k0, k1, k2, k3, k4, k5, k6, k7, k8⟩ := nl
    clear hb2 hr2
    simp only [cmdV]
    go_wp2
    exact bodyPost_ret (v := .tuple #[cmdV ⟨k0, k1, k2, k3, k4, k5, k6, k7, k8⟩, .int .i64 ne]) (by simp [results, Tryz.results58, go_sem, cmdV, m0, m1, m2, m3, m4, m5, m6, m7, m8]) rfl ⟨rfl, below9 HB2.out (by omega) _ _ _ _ _ _ _ _ _⟩

/-- Behind three new blocks. -/
theorem three_newB {w w2 : World} {A R T : Obj} (hb : Below (w.heap.size + 3) (((w.alloc A).alloc R).alloc T) w2) : w2.heap[w.heap.size + 1 + 1]? = some T ∧ w2.heap[w.heap.size + 1]? = some R ∧ w2.heap[w.heap.size]? = some A := by
  have h0 := heap_alloc_new ((w.alloc A).alloc R) T
  rw [World.size_alloc, World.size_alloc] at h0
  obtain ⟨h1, h2⟩ := two_newB (Below.refl (w.heap.size + 2) ((w.alloc A).alloc R))
  refine ⟨(hb.block _ (by omega)).trans h0, (hb.block _ (by omega)).trans ?_, (hb.block _ (by omega)).trans ?_⟩
  · rw [Below.heap_alloc _ _ _ (by simp)]; exact h1
  · rw [Below.heap_alloc _ _ _ (by simp; omega)]; exact h2

theorem callM_index (s : StateD) (x : CmdD) : (callM s x).1.index = s.index := by
  unfold callM
  split
  · show (operM _ _ _ _ _ _).1.index = s.index
    unfold operM
    repeat' split
    all_goals rfl
  · rfl

theorem obeyM_index (s : StateD) (x : CmdD) : (obeyM s x).1.index = s.index := by
  unfold obeyM
  split
  · rfl
  · split
    · rfl
    · exact callM_index s x

set_option maxRecDepth 100000 in
set_option maxHeartbeats 6400000 in
theorem Apply_own (v : Value) (s : StateD) (t : ByteArray) (w : World) (B : Nat) (hv : StateR w B v s) (hB : B ≤ w.heap.size) (ht : t.size ≤ 140737488351232) (hr : nextE s t = 0) :
    Calls Tryz.prog 28 #[v, .string t] w fun e w' => ∃ v', e = .returned (.tuple #[v', .agg #[.int .i64 (applyM s (decL t)).2.code, .int .i64 (applyM s (decL t)).2.n, .string (applyM s (decL t)).2.text], .int .i64 0]) ∧ StateO w' v' (applyM s (decL t)).1 ∧ Below w.heap.size w w' := by
  have CN := ghid (fun (w' : World) (hb : Below w.heap.size w w') => next_any v s t w' B (hv.below hb hB) (by have := hb.size; omega) ht)
  have CY := ghid (fun (w' : World) (hb : Below w.heap.size w w') => machCopy_any v s w' B (hv.below hb hB) (by have := hb.size; omega))
  obtain ⟨hck, hi, hd⟩ := nextE_zero hr
  have hg := GoodM.of hck
  have hx := decL_err hd
  have hnl : nextL s t = decL t := by unfold nextL; rw [if_pos ⟨hck, hi⟩]
  rw [hr] at CN
  rw [hnl] at CN
  have hi2 : s.index < 1073741824 := by have := hg.sess.high; omega
  have hi1 := hg.sess.low
  obtain ⟨x, hxe⟩ : ∃ x, x = decL t := ⟨_, rfl⟩
  rw [← hxe] at CN hx ⊢
  have CI := ghid (fun (p : Nat) (w' : World) (h : StB w' p s) => dropIdle_any p s w' h hg)
  have CO := ghid (fun (p : Nat) (w' : World) (h : StB w' p (dropM s)) => obey_any p (dropM s) x w' h hg.drop hi2 hx)
  have HA : Hid (applyM s x = ({ (obeyM (dropM s) x).1 with index := s.index + 1 }, (obeyM (dropM s) x).2)) := rfl
  have hoi := obeyM_index (dropM s) x
  obtain ⟨⟨s4, ⟨rc, rn, rt⟩⟩, h4⟩ : ∃ q, q = obeyM (dropM s) x := ⟨_, rfl⟩
  rw [← h4] at CO HA hoi
  rw [HA.out]
  simp only at CO hoi ⊢
  have hdi : (dropM s).index = s.index := rfl
  rw [hdi] at hoi
  obtain ⟨lv, pv, sv, rfl, h1, h2, h3⟩ := hv
  obtain ⟨lo, lc, rfl⟩ := h1.slice
  obtain ⟨po, pc, rfl⟩ := h2.slice
  obtain ⟨so, sc, rfl⟩ := h3.slice
  clear h1 h2 h3
  obtain ⟨ln, hln⟩ : ∃ n, n = s.locks.length := ⟨_, rfl⟩
  obtain ⟨pn, hpn⟩ : ∃ n, n = s.pairs.length := ⟨_, rfl⟩
  obtain ⟨sn, hsn⟩ : ∃ n, n = s.sess.length := ⟨_, rfl⟩
  obtain ⟨ix, hix⟩ : ∃ n, n = s.index := ⟨_, rfl⟩
  rw [← hln, ← hpn, ← hsn, ← hix] at CN CY
  rw [← hix] at hi1 hi2 hoi
  rw [← hln, ← hpn, ← hsn, ← hix]
  have HIX := ghid hix
  have HOI := ghid hoi
  obtain ⟨k0, k1, k2, k3, k4, k5, k6, k7, k8⟩ := x
  have HB0 : Hid (Below w.heap.size w (((w.alloc (.cells #[.int .i64 ix, .slice lo ln lc, .slice po pn pc, .slice so sn sc] 48)).alloc (.cells #[.int .i64 0, .slice none 0 0, .slice none 0 0, .slice none 0 0] 48)).alloc (.cells #[.int .i64 0, .int .i64 0, .string ⟨#[]⟩] 73))) := (((Below.refl w.heap.size w).alloc (Nat.le_refl _) _).alloc (by simp) _).alloc (by simp; omega) _
  clear hln hpn hsn hix hnl hr hck hi hd hx hxe h4 hg hoi hdi HA
  simp only [cmdV] at CN CO
  go_enter Tryz.func28, Tryz.ntmps28
  go_wp2_with fail
  refine (CN.out _ HB0.out).mono ?_
  rintro e w1 ⟨rfl, hb1⟩
  obtain ⟨hr1, hs1, ha1⟩ := three_newB (show Below (w.heap.size + 3) _ w1 from hb1.mono (by simp))
  have hbw1 : Below w.heap.size w w1 := HB0.out.trans (hb1.mono (by simp; omega))
  have hz1 : w.heap.size + 3 ≤ w1.heap.size := by have := hb1.size; simp at this; omega
  have hb2 : Below w1.heap.size w1 (w1.alloc (.cells #[.int .i64 k0, .int .i64 k1, .int .i64 k2, .int .i64 k3, .int .i64 k4, .int .i64 k5, .string k6, .string k7, .int .i64 k8] 67)) := (Below.refl _ _).alloc (Nat.le_refl _) _
  have hc2 : (w1.alloc (.cells #[.int .i64 k0, .int .i64 k1, .int .i64 k2, .int .i64 k3, .int .i64 k4, .int .i64 k5, .string k6, .string k7, .int .i64 k8] 67)).heap[w1.heap.size]? = some (.cells #[.int .i64 k0, .int .i64 k1, .int .i64 k2, .int .i64 k3, .int .i64 k4, .int .i64 k5, .string k6, .string k7, .int .i64 k8] 67 (0, 0)) := heap_alloc_new w1 _
  have hr2 := behind hr1 (Below.refl _ _) hb2
  have hs2 := behind hs1 (Below.refl _ _) hb2
  have ha2 := behind ha1 (Below.refl _ _) hb2
  have hbw2 := hbw1.trans (hb2.mono hbw1.size)
  obtain ⟨W2, hW2⟩ : ∃ W2, W2 = w1.alloc (.cells #[.int .i64 k0, .int .i64 k1, .int .i64 k2, .int .i64 k3, .int .i64 k4, .int .i64 k5, .string k6, .string k7, .int .i64 k8] 67) := ⟨_, rfl⟩
  rw [← hW2] at hc2 hr2 hs2 ha2 hbw2
  have hz2 : w1.heap.size < W2.heap.size := by rw [hW2]; simp
  have HW2 := ghid hW2
  have HC2 := ghid hc2
  have HR2 := ghid hr2
  have HS2 := ghid hs2
  have HBW2 := ghid hbw2
  obtain ⟨a0, a1, a2, a3, af, hal⟩ := state_cells ha2
  clear hb1 hr1 hs1 ha1 hbw1 hb2 hc2 hr2 hs2 ha2 hbw2 hW2 CN HB0
  go_upto_region 4 with fail
  rw [← HW2.out]
  clear HW2
  go_wp2_with fail
  refine (CY.out _ HBW2.out).mono ?_
  rintro e w3 ⟨lo3, po3, so3, ln3, lc3, pn3, pc3, sn3, sc3, rfl, hl3, hp3, hs3, hb3⟩
  have hb4 : Below w3.heap.size w3 (w3.alloc (.cells #[.int .i64 ix, .slice lo3 ln3 lc3, .slice po3 pn3 pc3, .slice so3 sn3 sc3] 48)) := (Below.refl _ _).alloc (Nat.le_refl _) _
  have K4 : StB (w3.alloc (.cells #[.int .i64 ix, .slice lo3 ln3 lc3, .slice po3 pn3 pc3, .slice so3 sn3 sc3] 48)) w3.heap.size s := ⟨lo3, po3, so3, ln3, lc3, pn3, pc3, sn3, sc3, by rw [← HIX.out]; exact heap_alloc_new w3 _, hl3.below hb4 (Nat.le_refl _), (hp3.below hb4 (Nat.le_refl _)).mono (by simp), (hs3.below hb4 (Nat.le_refl _)).mono (by simp)⟩
  have hz3 : W2.heap.size ≤ w3.heap.size := hb3.size
  have hbw4 := (HBW2.out.trans (hb3.mono HBW2.out.size)).trans (hb4.mono (by have := HBW2.out.size; omega))
  have hc4 := behind (behind HC2.out (Below.refl _ _) hb3) (Below.refl _ _) hb4
  have hr4 := behind (behind HR2.out (Below.refl _ _) hb3) (Below.refl _ _) hb4
  have hs4 := behind (behind HS2.out (Below.refl _ _) hb3) (Below.refl _ _) hb4
  obtain ⟨p, hp⟩ : ∃ p, p = w3.heap.size := ⟨_, rfl⟩
  obtain ⟨W4, hW4⟩ : ∃ W4, W4 = w3.alloc (.cells #[.int .i64 ix, .slice lo3 ln3 lc3, .slice po3 pn3 pc3, .slice so3 sn3 sc3] 48) := ⟨_, rfl⟩
  rw [← hW4] at K4 hbw4 hc4 hr4 hs4
  rw [← hp] at K4
  have CI4 := ghid (CI.out p W4 K4)
  have HC4 := ghid hc4
  have HR4 := ghid hr4
  have HS4 := ghid hs4
  have HBW4 := ghid hbw4
  have HW4 := ghid hW4
  have HP4 := ghid hp
  have hzp : W2.heap.size ≤ p := by rw [hp]; exact hz3
  have hzW : p < W4.heap.size := K4.lt
  clear hl3 hp3 hs3 hb3 hb4 K4 hz3 hbw4 hc4 hr4 hs4 hp hW4 CY HC2 HR2 HS2 HBW2 a0 a1 a2 a3 af hal
  go_upto_region 5 with fail
  rw [← HW4.out, ← HP4.out]
  clear HW4 HP4
  go_wp2_with fail
  refine CI4.out.mono ?_
  rintro e w5 ⟨rfl, K5, ht5⟩
  have n1 : w1.heap.size ≠ p := by omega
  have n2 : w.heap.size + 1 ≠ p := by omega
  have n3 : w.heap.size + 1 + 1 ≠ p := by omega
  have l1 := (Array.getElem?_eq_some_iff.1 HC4.out).1
  have l2 := (Array.getElem?_eq_some_iff.1 HS4.out).1
  have l3 := (Array.getElem?_eq_some_iff.1 HR4.out).1
  have hc5 := (ht5.block _ l1 n1).trans HC4.out
  have hr5 := (ht5.block _ l3 n3).trans HR4.out
  have hs5 := (ht5.block _ l2 n2).trans HS4.out
  have CO5 := ghid (CO.out p w5 K5)
  have HT5 := ghid ht5
  have HC5 := ghid hc5
  have HR5 := ghid hr5
  have HS5 := ghid hs5
  obtain ⟨m0, m1, m2, m3, m4, m5, m6, m7, m8, hml⟩ := cmd_cells hc5
  have hz5 : W4.heap.size ≤ w5.heap.size := ht5.size
  clear K5 ht5 hc5 hr5 hs5 l1 l2 l3 CI4 CI CO HC4 HR4 HS4
  go_wp2_with fail
  refine CO5.out.mono ?_
  rintro e w6 ⟨rfl, K6, ht6⟩
  have l1 := (Array.getElem?_eq_some_iff.1 HS5.out).1
  have l2 := (Array.getElem?_eq_some_iff.1 HR5.out).1
  have hr6 := (ht6.block _ l2 n3).trans HR5.out
  have hs6 := (ht6.block _ l1 n2).trans HS5.out
  have hz6 : w5.heap.size ≤ w6.heap.size := ht6.size
  have hpl6 := K6.lt
  have hb7 : Below w6.heap.size w6 (w6.alloc (.cells #[.int .i64 rc, .int .i64 rn, .string rt] 73)) := (Below.refl _ _).alloc (Nat.le_refl _) _
  have hq7 : (w6.alloc (.cells #[.int .i64 rc, .int .i64 rn, .string rt] 73)).heap[w6.heap.size]? = some (.cells #[.int .i64 rc, .int .i64 rn, .string rt] 73 (0, 0)) := heap_alloc_new w6 _
  have hr7 := behind hr6 (Below.refl _ _) hb7
  have hs7 := behind hs6 (Below.refl _ _) hb7
  have K7 := K6.below hb7
  have ht7 : TouchG w (w6.alloc (.cells #[.int .i64 rc, .int .i64 rn, .string rt] 73)) (fun b => b = p) := (((TouchG.of_below HBW4.out (Nat.le_refl _) (fun b => b = p)).trans HT5.out (fun _ _ h => h)).trans ht6 (fun _ _ h => h)).trans (TouchG.of_below hb7 (Nat.le_refl _) (fun _ => False)) (fun _ _ h => h.elim)
  obtain ⟨W7, hW7⟩ : ∃ W7, W7 = w6.alloc (.cells #[.int .i64 rc, .int .i64 rn, .string rt] 73) := ⟨_, rfl⟩
  obtain ⟨q, hq⟩ : ∃ q, q = w6.heap.size := ⟨_, rfl⟩
  rw [← hW7] at hq7 hr7 hs7 K7 ht7
  rw [← hq] at hq7
  have HW7 := ghid hW7
  have HQ := ghid hq
  have n4 : q ≠ p := by omega
  have n5 : p ≠ q := by omega
  have n6 : q ≠ w.heap.size + 1 := by omega
  have n7 : w.heap.size + 1 ≠ q := by omega
  have n8 : q ≠ w.heap.size + 1 + 1 := by omega
  have n9 : w.heap.size + 1 + 1 ≠ q := by omega
  have n10 : p ≠ w.heap.size + 1 := fun h => n2 h.symm
  have n11 : p ≠ w.heap.size + 1 + 1 := fun h => n3 h.symm
  have hpw : w.heap.size ≤ p := by omega
  clear ht6 hr6 hs6 l1 l2 hb7 hW7 hq CO5 HT5 HC5 HR5 HS5 HBW4 K6 m0 m1 m2 m3 m4 m5 m6 m7 m8 hml
  go_upto_region 7 with fail
  rw [← HW7.out, ← HQ.out]
  clear HW7 HQ
  have hwi : IntKind.i64.wrap (ix + 1) = ix + 1 := by rw [IntKind.wrap_i64]; omega
  have K8 := K7.setIndex (ix + 1)
  have ht8 := ht7.setCell (a := ⟨p, 0, none⟩) (Or.inl rfl) (.int .i64 (ix + 1))
  have hfo : ∀ b, b ≠ p → (W7.setCell ⟨p, 0, none⟩ (.int .i64 (ix + 1))).heap[b]? = W7.heap[b]? := fun b hb => heap_setCell_other _ _ _ _ (by simpa using hb)
  have hq8 := (hfo q n4).trans hq7
  have hr8 := (hfo _ n3).trans hr7
  have hs8 := (hfo _ n2).trans hs7
  obtain ⟨lo7, po7, so7, ln7, lc7, pn7, pc7, sn7, sc7, h70, -, -, -⟩ := K7
  rw [HOI.out] at h70
  obtain ⟨e0, e1, e2, e3, ef, hel⟩ := state_cells h70
  obtain ⟨W8, hW8⟩ : ∃ W8, W8 = W7.setCell ⟨p, 0, none⟩ (.int .i64 (ix + 1)) := ⟨_, rfl⟩
  rw [← hW8] at K8 ht8 hq8 hr8 hs8
  have HW8 := ghid hW8
  have HK8 := ghid K8
  have HT8 := ghid ht8
  have HR8 := ghid hr8
  have HS8 := ghid hs8
  obtain ⟨lo8, po8, so8, ln8, lc8, pn8, pc8, sn8, sc8, h80, h81, h82, h83⟩ := K8
  simp only at h80
  have HV := ghid (⟨h81, h82, h83⟩ : _ ∧ _ ∧ _)
  clear hq7 hr7 hs7 ht7 ht8 hfo h70 hW8 h81 h82 h83
  go_upto_region 8 with fail
  rw [← HW8.out]
  clear HW8 e0 e1 e2 e3 ef hel
  obtain ⟨e0, e1, e2, e3, ef, hel⟩ := state_cells h80
  obtain ⟨q0, q1, q2, qf, hql⟩ := reply_cells hq8
  obtain ⟨r0, r1, r2, rf, hrl⟩ := reply_cells hr8
  obtain ⟨s0, s1, s2, s3, sf, hsl⟩ := state_cells hs8
  clear h80 hq8 hr8 hs8
  have htF : TouchG W8 (((((((W8.setCell ⟨w.heap.size + 1, 0, none⟩ (.int .i64 (ix + 1))).setCell ⟨w.heap.size + 1, 1, none⟩ (.slice lo8 ln8 lc8)).setCell ⟨w.heap.size + 1, 2, none⟩ (.slice po8 pn8 pc8)).setCell ⟨w.heap.size + 1, 3, none⟩ (.slice so8 sn8 sc8)).setCell ⟨w.heap.size + 1 + 1, 0, none⟩ (.int .i64 rc)).setCell ⟨w.heap.size + 1 + 1, 1, none⟩ (.int .i64 rn)).setCell ⟨w.heap.size + 1 + 1, 2, none⟩ (.string rt)).drew (fun b => b = w.heap.size + 1 ∨ b = w.heap.size + 1 + 1) :=
    ((((((((TouchG.refl W8 (fun b => b = w.heap.size + 1 ∨ b = w.heap.size + 1 + 1)).setCell (a := ⟨w.heap.size + 1, 0, none⟩) (Or.inl (Or.inl rfl)) _).setCell (a := ⟨w.heap.size + 1, 1, none⟩) (Or.inl (Or.inl rfl)) _).setCell (a := ⟨w.heap.size + 1, 2, none⟩) (Or.inl (Or.inl rfl)) _).setCell (a := ⟨w.heap.size + 1, 3, none⟩) (Or.inl (Or.inl rfl)) _).setCell (a := ⟨w.heap.size + 1 + 1, 0, none⟩) (Or.inl (Or.inr rfl)) _).setCell (a := ⟨w.heap.size + 1 + 1, 1, none⟩) (Or.inl (Or.inr rfl)) _).setCell (a := ⟨w.heap.size + 1 + 1, 2, none⟩) (Or.inl (Or.inr rfl)) _).drew 1
  have hfF : ∀ g, g < W8.heap.size → (g = w.heap.size + 1 ∨ g = w.heap.size + 1 + 1) → Foreign W8 g := fun g _ e => by
    rcases e with rfl | rfl
    · exact foreign_state HS8.out
    · exact foreign_reply HR8.out
  have HFL := ghid (HV.out.1.touch htF hfF)
  have HFP := ghid ((HV.out.2.1.touch (Nat.le_refl _) htF hfF).mono htF.size)
  have HFS := ghid ((HV.out.2.2.touch (Nat.le_refl _) htF hfF).mono htF.size)
  have HTF := ghid htF
  clear htF hfF
  go_wp2_with fail
  go_region
  all_goals
    go_wp2
    refine bodyPost_ret (v := .tuple #[.agg #[.int .i64 (ix + 1), .slice lo8 ln8 lc8, .slice po8 pn8 pc8, .slice so8 sn8 sc8], .agg #[.int .i64 rc, .int .i64 rn, .string rt], .int .i64 0]) (by simp [results, Tryz.results28, go_sem, r0, r1, r2, s0, s1, s2, s3]) rfl ⟨_, rfl, ?_, ?_⟩
    · exact ⟨_, _, _, _, _, _, _, _, _, rfl, HFL.out, HFP.out, HFS.out⟩
    · exact (HT8.out.trans HTF.out (fun i hi h => by rcases h with rfl | rfl <;> omega)).below (Nat.le_refl _) (fun k hk => by rw [hk]; exact hpw)

end Go.Proofs.YtijilhbdbeajjaaGreatDoor

namespace Go.Proofs.YtijilhbdbeajjaaGreatDoor

open Go.RowKit Go.Maps

/-- The map at block b tells f c at c (0: nothing), for every c that fits. -/
def MapI (b n : Nat) (f : Int → Int) (w : World) : Prop :=
  ∃ D : DataW Unit, w.ownsMap Tryz.prog 3 (plainElem Tryz.prog 3) b n D ∧ ∀ c : Int, (Lit.int .i64 c).wf = true → D.atKey (.int .i64 c) (.lit (.int .i64 0)) = .lit (.int .i64 (f c))

theorem MapI.made (w : World) : MapI w.heap.size 0 (fun _ => 0) (w.alloc (.map #[] 0)) :=
  ⟨.map [], World.ownsMap_made _ _ _ _, fun _ _ => rfl⟩

theorem MapI.lt {b n : Nat} {f : Int → Int} {w : World} (h : MapI b n f w) : b < w.heap.size := by
  obtain ⟨D, h, -⟩ := h
  exact h.lt

theorem MapI.kept {b n : Nat} {f : Int → Int} {w w' : World} {row : Option Nat} (h : MapI b n f w) (hg : w.grownBy w' row) (hne : some b ≠ row) : MapI b n f w' := by
  obtain ⟨D, h, h2⟩ := h
  exact ⟨D, h.kept hg hne, h2⟩

theorem MapI.mono {b n m : Nat} {f : Int → Int} {w : World} (h : MapI b n f w) (hm : n ≤ m) : MapI b m f w := by
  obtain ⟨D, h, h2⟩ := h
  exact ⟨D, h.mono hm, h2⟩

theorem grownD {w w' : World} (h : Below w.heap.size w w') (row : Option Nat) : w.grownBy w' row := ⟨h.os, h.tape, h.output, h.size, fun i hi _ => h.block i hi⟩

theorem MapI.below {b n : Nat} {f : Int → Int} {w w' : World} (h : MapI b n f w) (hb : Below w.heap.size w w') : MapI b n f w' := h.kept (grownD hb none) (by simp)

/-- f with v at c. -/
def setF (f : Int → Int) (c v : Int) : Int → Int := fun x => if x = c then v else f x

/-- What is asked of a command that came of raw things, up to a number. -/
structure KeepX (m : Nat) (x : CmdD) : Prop where
  err : x.err = 0
  client : x.client ≤ 4
  seq : x.seq ≤ m + 1
  name : x.kind = 2 → x.a = ⟨#[97]⟩ ∨ x.a = ⟨#[98]⟩ ∨ x.a = ⟨#[107, 101, 121]⟩

/-- What holds of the commands so far, of the sessions (f) and of the next calls (g), behind i raw things. -/
structure KeepC (m i : Nat) (out : List CmdD) (f g : Int → Int) : Prop where
  len : out.length = i
  ok : ∀ x ∈ out, KeepX m x
  f0 : ∀ c, 0 ≤ f c ∧ f c ≤ i
  g0 : ∀ c, 0 ≤ g c ∧ g c ≤ i + 1
  fg : ∀ c, f c ≠ 0 → 1 ≤ g c

theorem KeepC.nil {m : Nat} : KeepC m 0 [] (fun _ => 0) (fun _ => 0) := ⟨rfl, fun x hx => (by cases hx), fun _ => ⟨by simp, by simp⟩, fun _ => ⟨by simp, by simp⟩, fun _ h => absurd rfl h⟩

/-- One more command; nothing else. -/
theorem KeepC.more {m i : Nat} {out : List CmdD} {f g : Int → Int} (h : KeepC m i out f g) {x : CmdD} (hx : KeepX m x) : KeepC m (i + 1) (out ++ [x]) f g :=
  ⟨by have := h.len; simp; omega, fun y hy => by rcases List.mem_append.1 hy with hy | hy; exact h.ok y hy; simp at hy; rw [hy]; exact hx,
    fun c => by have := h.f0 c; omega, fun c => by have := h.g0 c; omega, h.fg⟩

/-- A session ends. -/
theorem KeepC.leave {m i : Nat} {out : List CmdD} {f g : Int → Int} (h : KeepC m i out f g) (c : Int) : KeepC m i out (setF f c 0) g := by
  refine ⟨h.len, h.ok, fun x => ?_, h.g0, fun x hx => ?_⟩
  · unfold setF; split
    · omega
    · exact h.f0 x
  · unfold setF at hx
    split at hx
    · exact absurd rfl hx
    · exact h.fg x hx

/-- A call was made. -/
theorem KeepC.next {m i : Nat} {out : List CmdD} {f g : Int → Int} (h : KeepC m i out f g) {x : CmdD} (hx : KeepX m x) (c : Int) : KeepC m (i + 1) (out ++ [x]) f (setF g c (g c + 1)) := by
  have h' := h.more hx
  refine ⟨h'.len, h'.ok, h'.f0, fun x => ?_, fun x hx => ?_⟩
  · unfold setF; split
    · have := h.g0 c; omega
    · exact h'.g0 x
  · unfold setF; split
    · have := h.g0 c; omega
    · exact h.fg x hx

end Go.Proofs.YtijilhbdbeajjaaGreatDoor

namespace Go.Proofs.YtijilhbdbeajjaaGreatDoor

open Go.RowKit

set_option maxRecDepth 100000

theorem Tryz.infoU8 : (Tryz.prog.info? 5).map (fun i => (i.zero, i.size, i.bytes)) = some (some (.int .u8 0), 1, 1) := by kernel_rfl

/-- 'string(v)' of a row of bytes of the call's own. -/
theorem conv_own (W : World) (base : Nat) (v : Value) (n : Nat) (xs : List Int) (h : W.ownsRow base 5 1 v n (xs.map (Value.int .u8))) :
    (convert 147 9 v).run Tryz.prog W = .ok (.string (strOfNums xs)) W := by
  have hl : xs.length = n := by have := h.1; simpa using this
  have hc := fun g => h.cells (g := g)
  rcases h.2 with ⟨rfl, hn⟩ | ⟨g, cap, cur, rfl, _, hg, hle, _, hcs, htake⟩
  · rw [run_convert_bytes_nil W 147 5 Tryz.underlying147 Tryz.underlying5 0 0 9 Tryz.underlying9]
    have : xs = [] := by cases xs with
      | nil => rfl
      | cons a t => simp at hl; omega
    subst this
    rfl
  · refine run_convert_bytes_arg W 147 5 Tryz.underlying147 Tryz.underlying5 g 0 n cap xs hl ?_ 9 Tryz.underlying9
    intro i hi
    have := hc g rfl i (.int .u8 (xs.getD i 0)) (by simp [List.getElem?_map, List.getElem?_eq_getElem (show i < xs.length by omega)])
    have e : (⟨g, 0, none⟩ : Addr).add i = ⟨g, 0 + i, none⟩ := by unfold Addr.add; split <;> simp_all
    rw [← e]; exact this

set_option maxHeartbeats 800000 in
theorem number_ok (n : Int) (w : World) (h0 : 0 ≤ n) (h1 : n ≤ 1099511627776) :
    Calls Tryz.prog 169 #[.int .i64 n] w fun e w' => e = .returned (.tuple #[.string (strOfNums (encN n)), .int .i64 0]) ∧ Below w.heap.size w w' := by
  obtain ⟨i0, hi, hz0, hz1, hz2⟩ := info_parts Tryz.infoU8
  have h0' : ¬ n < 0 := by omega
  have h1' : ¬ 1099511627776 < n := by omega
  go_enter Tryz.func169, Tryz.ntmps169
  go_wp2
  go_loopw [0, 4] (fun x v wr => ∃ (f : Nat) (m : Int) (l : List Int), f ≤ 5 ∧ x = .int .i64 m ∧ 0 ≤ m ∧ m < reach f ∧ m ≤ 1099511627776 ∧ l.length ≤ 5 - f ∧ l ++ enc f m = encN n ∧
      wr.ownsRow w.heap.size 5 1 v l.length (l.map (Value.int .u8)) ∧ Below w.heap.size w wr)
    (fun x _ _ => (intOf x).toNat)
  case atStart => exact ⟨5, n, [], by omega, rfl, h0, by simp [reach]; omega, h1, by simp, rfl, World.ownsRow_nil _ _ _ _, Below.refl _ _⟩
  case round =>
    obtain ⟨f, m, l, hf, rfl, hm0, hm1, hm2, hl, heq, hown, hb⟩ := hrel
    have Heq : Hid (l ++ enc f m = encN n) := heq
    clear heq
    by_cases hlt : m < 128
    · have hst := enc_small f m hlt
      have Hst : Hid (enc f m = [m]) := hst
      clear hst
      go_wp2_with (at_builtin; refine wpList_append_own _ rfl (.tmp 22) (.tmp 25) 147 rfl w.heap.size 5 i0 (.int .u8 0) 1 1 Tryz.underlying147 hi hz0 hz1 hz2 rfl (by decide) _ _ _ rfl (hown.alloc _) ⟨wr.heap.size, 0, none⟩ 1 1 [.int .u8 m] rfl rfl (cell_one_new _ _ _) (by intro u hu; simp at hu; subst hu; rfl) (by unfold maxLen; omega) (by omega) (by have := hb.size; simp; omega) ?_)
      intro v1 w1 hown1 hgrow1 _
      have hcv := conv_own w1 w.heap.size v1 (l.length + 1) (l ++ [m]) (by simpa using hown1)
      have hb1 : Below w.heap.size w w1 := (hb.alloc hb.size _).grown hgrow1 (by have := hb.size; simp; omega) (fun k hk => (hown.lt k hk).1)
      clear hown1 hgrow1 hown hb
      go_wp2
      go_ret2
      exact ⟨by rw [← Heq.out, Hst.out]; rfl, hb1⟩
    · obtain ⟨g, rfl⟩ : ∃ g, f = g + 1 := by
        cases f with
        | zero => simp [reach] at hm1; omega
        | succ g => exact ⟨g, rfl⟩
      have hst := enc_step g m hlt
      have Hst : Hid (enc (g + 1) m = (m % 128 + 128) :: enc g (m / 128)) := hst
      have hrd := reach_div g m hm0 hm1
      have Hrd : Hid (0 ≤ m / 128 ∧ m / 128 < reach g) := hrd
      clear hst hrd hm1
      go_wp2_with (at_builtin; refine wpList_append_own _ rfl (.tmp 13) (.tmp 18) 147 rfl w.heap.size 5 i0 (.int .u8 0) 1 1 Tryz.underlying147 hi hz0 hz1 hz2 rfl (by decide) _ _ _ rfl (hown.alloc _) ⟨wr.heap.size, 0, none⟩ 1 1 [.int .u8 (m % 128 + 128)] rfl rfl (cell_one_new _ _ _) (by intro u hu; simp at hu; subst hu; rfl) (by unfold maxLen; omega) (by omega) (by have := hb.size; simp; omega) ?_)
      intro v1 w1 hown1 hgrow1 _
      have hb1 : Below w.heap.size w w1 := (hb.alloc hb.size _).grown hgrow1 (by have := hb.size; simp; omega) (fun k hk => (hown.lt k hk).1)
      have hown2 : w1.ownsRow w.heap.size 5 1 v1 (l ++ [m % 128 + 128]).length ((l ++ [m % 128 + 128]).map (Value.int .u8)) := by simpa using hown1
      clear hown1 hgrow1 hown hb
      go_wp2
      go_roundw
      case rel => exact ⟨g, m / 128, l ++ [m % 128 + 128], by omega, rfl, Hrd.out.1, Hrd.out.2, by omega, by simp; omega, by rw [← Heq.out, Hst.out]; simp, hown2, hb1⟩
      case measure => simp [intOf]; omega

end Go.Proofs.YtijilhbdbeajjaaGreatDoor

namespace Go.Proofs.YtijilhbdbeajjaaGreatDoor

open Go.RowKit

/-- A text's bytes: its length, and it. -/
def textOut (s : ByteArray) : ByteArray := strOfNums (encN (s.size : Int)) ++ s

theorem textOut_size (s : ByteArray) : (textOut s).size ≤ s.size + 6 := by
  have h := strOfNums_size (encN (s.size : Int))
  have := encN_length (s.size : Int)
  unfold textOut
  rw [ByteArray.size_append]
  omega

set_option maxHeartbeats 400000 in
theorem text_ok (s : ByteArray) (w : World) (h : s.size ≤ 5000) :
    Calls Tryz.prog 214 #[.string s] w fun e w' => e = .returned (.tuple #[.string (textOut s), .int .i64 0]) ∧ Below w.heap.size w w' := by
  have hz : (strOfNums (encN (s.size : Int))).size + s.size ≤ 5006 := by
    have h := strOfNums_size (encN (s.size : Int))
    have := encN_length (s.size : Int)
    omega
  go_enter Tryz.func214, Tryz.ntmps214
  go_wp2_with fail
  refine (number_ok (s.size : Int) _ (by omega) (by omega)).mono ?_
  rintro e w1 ⟨rfl, g1⟩
  go_wp2
  go_ret2
  exact ⟨rfl, g1⟩

end Go.Proofs.YtijilhbdbeajjaaGreatDoor

namespace Go.Proofs.YtijilhbdbeajjaaGreatDoor

open Go.RowKit

/-- A number's bytes. -/
def numOut (n : Int) : ByteArray := strOfNums (encN n)

/-- What a Call has behind its head. -/
def callOut (c : CmdD) : ByteArray := numOut c.session ++ (numOut c.seq ++ (numOut c.acked ++ (numOut c.ok ++ (numOut c.n ++ (textOut c.a ++ textOut c.b)))))

/-- A command's bytes. -/
def cmdOut (c : CmdD) : ByteArray := if c.kind = 2 then strOfNums [c.kind, c.client] ++ callOut c else strOfNums [c.kind, c.client]

theorem size_list (s : ByteArray) : s.data.toList.length = s.size := by simp

theorem bytes_ext {a b : ByteArray} (h : a.data.toList = b.data.toList) : a = b := ByteArray.ext (Array.toList_inj.1 h)

theorem nsize (n : Int) : (numOut n).size = (encN n).length := strOfNums_size _

theorem textOut_le (s : ByteArray) (n : Nat) (h : s.size ≤ n) : (textOut s).size ≤ n + 6 := by
  have := textOut_size s
  omega

theorem numOut_le (n : Int) : (numOut n).size ≤ 6 := by rw [nsize]; exact (encN_length n).2

end Go.Proofs.YtijilhbdbeajjaaGreatDoor

namespace Go.Proofs.YtijilhbdbeajjaaGreatDoor

open Go.RowKit Go.Shelf

def buildRen : Go.Shelf.Ren := ⟨fun | 166 => 170 | 240 => 213 | 276 => 241 | 169 => 75 | n => n,
  fun | 0 => 0 | 3 => 3 | 4 => 4 | 5 => 5 | 9 => 9 | 20 => 20 | 37 => 147 | 70 => 146 | 72 => 149 | 75 => 248 | 80 => 153 | 127 => 200 | 164 => 322 | n => n, fun | n => n⟩

theorem buildLays166 : Go.Proofs.Lays.n166 Tryz.prog buildRen := {
  mixed := by kernel_rfl
  f166 := Tryz.func170.trans (congrArg some (by kernel_rfl))
  f240 := Tryz.func213.trans (congrArg some (by kernel_rfl))
  f276 := Tryz.func241.trans (congrArg some (by kernel_rfl))
  t0 := Tryz.underlying0
  a0 := Tryz.isAgg0
  z0 := Tryz.sizeOf0
  v0 := Tryz.zeroValue0
  t3 := Tryz.underlying3
  a3 := Tryz.isAgg3
  z3 := Tryz.sizeOf3
  v3 := Tryz.zeroValue3
  t4 := Tryz.underlying4
  a4 := Tryz.isAgg4
  z4 := Tryz.sizeOf4
  v4 := Tryz.zeroValue4
  t9 := Tryz.underlying9
  a9 := Tryz.isAgg9
  z9 := Tryz.sizeOf9
  v9 := Tryz.zeroValue9
  t20 := Tryz.underlying20
  a20 := Tryz.isAgg20
  z20 := Tryz.sizeOf20
  v20 := Tryz.zeroValue20
  t37 := Tryz.underlying147
  a37 := Tryz.isAgg147
  z37 := Tryz.sizeOf147
  v37 := Tryz.zeroValue147
  t70 := Tryz.underlying146
  a70 := Tryz.isAgg146
  z70 := Tryz.sizeOf146
  v70 := Tryz.zeroValue146
  t72 := Tryz.underlying149
  a72 := Tryz.isAgg149
  z72 := Tryz.sizeOf149
  v72 := Tryz.zeroValue149
  t75 := Tryz.underlying248
  a75 := Tryz.isAgg248
  z75 := Tryz.sizeOf248
  v75 := Tryz.zeroValue248
  t164 := Tryz.underlying322
  a164 := Tryz.isAgg322
  z164 := Tryz.sizeOf322
  v164 := Tryz.zeroValue322 }

theorem buildLays169 : Go.Proofs.Lays.n169 Tryz.prog buildRen := {
  mixed := by kernel_rfl
  f169 := Tryz.func75.trans (congrArg some (by kernel_rfl))
  t0 := Tryz.underlying0
  a0 := Tryz.isAgg0
  z0 := Tryz.sizeOf0
  v0 := Tryz.zeroValue0
  t3 := Tryz.underlying3
  a3 := Tryz.isAgg3
  z3 := Tryz.sizeOf3
  v3 := Tryz.zeroValue3
  t9 := Tryz.underlying9
  a9 := Tryz.isAgg9
  z9 := Tryz.sizeOf9
  v9 := Tryz.zeroValue9
  t37 := Tryz.underlying147
  a37 := Tryz.isAgg147
  z37 := Tryz.sizeOf147
  v37 := Tryz.zeroValue147
  t70 := Tryz.underlying146
  a70 := Tryz.isAgg146
  z70 := Tryz.sizeOf146
  v70 := Tryz.zeroValue146
  t72 := Tryz.underlying149
  a72 := Tryz.isAgg149
  z72 := Tryz.sizeOf149
  v72 := Tryz.zeroValue149
  t127 := Tryz.underlying200
  a127 := Tryz.isAgg200
  z127 := Tryz.sizeOf200
  v127 := Tryz.zeroValue200 }

theorem buildExtra : Go.Proofs.Builder.Extra Tryz.prog buildRen where
  sizeBuilder := by kernel_rfl
  liesBuilder := by kernel_rfl
  t5 := Tryz.underlying5
  a5 := Tryz.isAgg5
  z5 := Tryz.sizeOf5
  v5 := Tryz.zeroValue5
  infoByte := by kernel_rfl
  cellsByte := by kernel_rfl
  sizeByte := by kernel_rfl
  neB5 := by decide

/-- The builder at block b has these bytes. -/
def BuiltB (B b : Nat) (l : List UInt8) (w : World) : Prop := Lib.IsBuilderF 149 5 B b (Lib.byteCells l) w

theorem writeString_any (B b : Nat) (l : List UInt8) (s : ByteArray) (w : World) (h : BuiltB B b l w) (hlen : l.length + s.size ≤ 140737488355328) (hBw : B ≤ w.heap.size) :
    Calls Tryz.prog 170 #[.pointer (some ⟨b, 0, none⟩), .string s] w fun e w' => e = .returned (.tuple #[.int .i64 s.size, .nilIface]) ∧ BuiltB B b (l ++ s.data.toList) w' ∧ Below B w w' ∧ Lib.OthersKept 5 (some b) w w' := by
  refine (Any.Builder_WriteString_k buildLays166 buildExtra B b (Lib.byteCells l) s w h (by rw [Lib.byteCells_length]; exact hlen) hBw).mono ?_
  rintro e w' ⟨he, h1, h2, h3⟩
  refine ⟨he, ?_, h2, h3⟩
  unfold BuiltB
  rw [Lib.byteCells_append]
  exact Or.inr h1

theorem buildString_any (B b : Nat) (l : List UInt8) (w : World) (h : BuiltB B b l w) (hBw : B ≤ w.heap.size) :
    Calls Tryz.prog 75 #[.pointer (some ⟨b, 0, none⟩)] w fun e w' => e = .returned (.string ⟨l.toArray⟩) ∧ Below B w w' := by
  refine (Any.Builder_String_any_k buildLays169 buildExtra B b l w h hBw).mono ?_
  rintro e w' ⟨he, -, h2, -⟩
  exact ⟨he, h2⟩

end Go.Proofs.YtijilhbdbeajjaaGreatDoor

namespace Go.Proofs.YtijilhbdbeajjaaGreatDoor

open Go.RowKit

theorem grownC {w w' : World} (h : Below w.heap.size w w') (row : Option Nat) : w.grownBy w' row := ⟨h.os, h.tape, h.output, h.size, fun i hi _ => h.block i hi⟩

theorem BuilderAtF_below {T e : TypeId} {B b : Nat} {p : Value} {bs : List Value} {w w' : World} (h : Lib.BuilderAtF T e B b p bs w) (hb : Below w.heap.size w w') : Lib.BuilderAtF T e B b p bs w' := by
  have hlt := h.lt
  obtain ⟨hB, v, hbk, hown, hne⟩ := h
  refine ⟨hB, v, (hb.block b hlt).trans hbk, hown.kept (grownC hb none) ?_, hne⟩
  cases v.ownBlock with
  | none => exact Or.inl rfl
  | some x => exact Or.inr (by simp)

theorem BuiltB.below {B b : Nat} {l : List UInt8} {w w' : World} (h : BuiltB B b l w) (hb : Below w.heap.size w w') : BuiltB B b l w' := by
  rcases h with h | h
  · exact Or.inl (BuilderAtF_below h hb)
  · exact Or.inr (BuilderAtF_below h hb)

theorem BuiltB.lt {B b : Nat} {l : List UInt8} {w : World} (h : BuiltB B b l w) : B ≤ b ∧ b < w.heap.size := by
  rcases h with h | h
  · exact ⟨h.1, h.lt⟩
  · exact ⟨h.1, h.lt⟩

/-- A row that is no row of bytes stands. -/
theorem kept_row {b : Nat} {w w' : World} (h : Lib.OthersKept 5 (some b) w w') {g : Nat} {cs : Array Value} {t : TypeId} (hg : w.heap[g]? = some (.cells cs t (0, 0))) (hne : g ≠ b) (ht : t ≠ 5) : w'.heap[g]? = some (.cells cs t (0, 0)) :=
  h g _ hg (by intro e; exact hne (Option.some.inj e)) (by intro c fz e; cases e; exact ht rfl)

theorem take_snocC {α : Type} {xs : List α} {k : Nat} {x : α} (h : xs[k]? = some x) : xs.take (k + 1) = xs.take k ++ [x] := by
  rw [List.take_add_one, h]
  rfl

end Go.Proofs.YtijilhbdbeajjaaGreatDoor

namespace Go.Proofs.YtijilhbdbeajjaaGreatDoor

open Go.RowKit

/-- The bytes of numbers, one behind another. -/
def numsB (xs : List Int) : List UInt8 := xs.flatMap fun n => (strOfNums (encN n)).data.toList

theorem numsB_snoc (xs : List Int) (n : Int) : numsB (xs ++ [n]) = numsB xs ++ (strOfNums (encN n)).data.toList := by simp [numsB]

theorem numsB_len (xs : List Int) : (numsB xs).length ≤ 6 * xs.length := by
  induction xs with
  | nil => simp [numsB]
  | cons x t ih =>
    have h1 := (encN_length x).2
    have h2 := strOfNums_size (encN x)
    have h3 : (strOfNums (encN x)).data.toList.length = (strOfNums (encN x)).size := by simp
    have e : numsB (x :: t) = (strOfNums (encN x)).data.toList ++ numsB t := by simp [numsB]
    rw [e, List.length_append, List.length_cons]
    omega

set_option maxRecDepth 100000 in
set_option maxHeartbeats 6400000 in
theorem callBytes_any (k c s q u ok : Int) (a b : ByteArray) (n : Int) (w : World) (hN : ∀ x ∈ [s, q, u, ok, n], 0 ≤ x ∧ x ≤ 1099511627776) (ha : a.size ≤ 5000) (hb : b.size ≤ 5000) :
    Calls Tryz.prog 231 #[.agg #[.int .i64 k, .int .i64 c, .int .i64 s, .int .i64 q, .int .i64 u, .int .i64 ok, .string a, .string b, .int .i64 n]] w fun e w' => e = .returned (.string ⟨(numsB [s, q, u, ok, n] ++ ((textOut a).data.toList ++ (textOut b).data.toList)).toArray⟩) ∧ Below w.heap.size w w' := by
  have HBX := chid (cbox w k c s q u ok a b n)
  have HN := chid hN
  clear hN
  obtain ⟨w0, hw0⟩ : ∃ w0, w0 = w.alloc (.cells #[.int .i64 k, .int .i64 c, .int .i64 s, .int .i64 q, .int .i64 u, .int .i64 ok, .string a, .string b, .int .i64 n] 67) := ⟨_, rfl⟩
  have hz0 : w0.heap.size = w.heap.size + 1 := by rw [hw0]; simp
  have HG0 : Hid (w0.heap[w.heap.size]? = some (.cells #[.int .i64 k, .int .i64 c, .int .i64 s, .int .i64 q, .int .i64 u, .int .i64 ok, .string a, .string b, .int .i64 n] 67 (0, 0))) := by rw [hw0]; exact heap_alloc_new w _
  have HF : Hid (BuiltB w0.heap.size w0.heap.size [] (w0.alloc (.cells #[.pointer none, .slice none 0 0] 149))) := Lib.IsBuilderF.of (Lib.fresh_isBuilder 149 5 w0)
  rw [← hw0] at HBX
  have HW0 := chid hw0
  clear hw0
  go_enter Tryz.func231, Tryz.ntmps231
  go_wp2
  go_loopw [26] (fun i wr => ∃ j : Nat, j ≤ 5 ∧ i = .int .i64 j ∧ BuiltB (w.heap.size + 1) (w.heap.size + 1) (numsB ([s, q, u, ok, n].take j)) wr ∧ wr.heap[w.heap.size + 2]? = some (.cells #[.int .i64 s, .int .i64 q, .int .i64 u, .int .i64 ok, .int .i64 n] 3 (0, 0)) ∧ Below (w.heap.size + 1) w0 wr) (fun i _ => 5 - (intOf i).toNat)
  case atStart =>
    refine ⟨0, by omega, rfl, ?_, ?_, ?_⟩
    · have h := HF.out
      rw [hz0] at h
      rw [HW0.out] at h
      exact Lib.IsBuilderF.alloc h _
    · have := heap_alloc_new ((w.alloc (.cells #[.int .i64 k, .int .i64 c, .int .i64 s, .int .i64 q, .int .i64 u, .int .i64 ok, .string a, .string b, .int .i64 n] 67)).alloc (.cells #[.pointer none, .slice none 0 0] 149)) (.cells #[.int .i64 s, .int .i64 q, .int .i64 u, .int .i64 ok, .int .i64 n] 3)
      simpa using this
    · rw [HW0.out]
      exact ((Below.refl _ _).alloc (by simp) _).alloc (by simp) _
  case round =>
    obtain ⟨j, hj, rfl, hbt, hrow, hbw⟩ := hrel
    have HT := chid hbt
    have HR := chid hrow
    have HB := chid hbw
    have hzr : w.heap.size + 2 < wr.heap.size := (Array.getElem?_eq_some_iff.1 hrow).1
    clear hbt hrow hbw
    by_cases hlt : j < 5
    · obtain ⟨x, hx⟩ : ∃ x, [s, q, u, ok, n][j]? = some x := ⟨_, List.getElem?_eq_getElem (by simpa using hlt)⟩
      have hxm := HN.out x (List.mem_of_getElem? hx)
      have HX := chid hx
      have hcx : wr.cell? ⟨w.heap.size + 2, j, none⟩ = some (.int .i64 x) := by
        rw [Lib.cell_of_heap HR.out]
        have e : (#[Value.int .i64 s, .int .i64 q, .int .i64 u, .int .i64 ok, .int .i64 n])[j]? = ([s, q, u, ok, n].map (Value.int .i64))[j]? := by simp
        rw [e, List.getElem?_map, HX.out]
        rfl
      have hl : (numsB ([s, q, u, ok, n].take j)).length ≤ 30 := by
        have h1 := numsB_len ([s, q, u, ok, n].take j)
        have h2 : ([s, q, u, ok, n].take j).length ≤ 5 := by rw [List.length_take]; simp; omega
        omega
      have hsx : (strOfNums (encN x)).size ≤ 6 := by rw [strOfNums_size]; exact (encN_length x).2
      have CN := chid (fun w => number_ok x w hxm.1 hxm.2)
      obtain ⟨t, ht⟩ : ∃ t, t = strOfNums (encN x) := ⟨_, rfl⟩
      rw [← ht] at CN hsx
      have HTT := chid ht
      clear hx hxm ht
      go_wp2_with fail
      refine (CN.out _).mono ?_
      rintro e w2 ⟨rfl, hb2⟩
      have HT2 := chid (HT.out.below hb2)
      have HR2 : Hid (w2.heap[w.heap.size + 2]? = _) := (hb2.block _ hzr).trans HR.out
      have HB2 := chid (HB.out.trans (hb2.mono (by omega)))
      have hz2 : wr.heap.size ≤ w2.heap.size := hb2.size
      clear hb2 hcx
      go_wp2_with fail
      refine (writeString_any (w.heap.size + 1) (w.heap.size + 1) _ t w2 HT2.out (by omega) (by omega)).mono ?_
      rintro e w3 ⟨rfl, hb3, hb4, hk3⟩
      have HT3 := chid hb3
      have HR3 := chid (kept_row hk3 HR2.out (by omega) (by decide))
      have HB3 := chid (HB2.out.trans hb4)
      clear hb3 hb4 hk3
      go_wp2
      go_roundw
      case rel =>
        refine ⟨j + 1, by omega, by go_num, ?_, HR3.out, HB3.out⟩
        rw [take_snocC HX.out, numsB_snoc, ← HTT.out]
        exact HT3.out
      case measure => simp [intOf]; omega
    · rename World => wq
      obtain rfl : j = 5 := by omega
      have hG := (HB.out.block _ (by omega)).trans HG0.out
      have s6 : wq.cell? ⟨w.heap.size, 6, none⟩ = some (.string a) := cell_of_row wq w.heap.size 6 _ _ _ hG
      have s7 : wq.cell? ⟨w.heap.size, 7, none⟩ = some (.string b) := cell_of_row wq w.heap.size 7 _ _ _ hG
      clear hG hlt hj
      go_wp2
      go_loopw [46] (fun i wr => ∃ j : Nat, j ≤ 2 ∧ i = .int .i64 j ∧ BuiltB (w.heap.size + 1) (w.heap.size + 1) (numsB [s, q, u, ok, n] ++ ([a, b].take j).flatMap fun x => (textOut x).data.toList) wr ∧ wr.heap[wq.heap.size]? = some (.cells #[.string a, .string b] 9 (0, 0)) ∧ Below (w.heap.size + 1) w0 wr) (fun i _ => 2 - (intOf i).toNat)
      case atStart =>
        refine ⟨0, by omega, rfl, ?_, ?_, ?_⟩
        · have h := HT.out
          simp only [List.take_zero, List.flatMap_nil, List.append_nil]
          exact Lib.IsBuilderF.alloc h _
        · exact heap_alloc_new wq _
        · exact HB.out.alloc (by omega) _
      case round =>
        obtain ⟨j, hj, rfl, hbt, hrow, hbw⟩ := hrel
        have HT' := chid hbt
        have HR' := chid hrow
        have HB' := chid hbw
        have hzr' : wq.heap.size < wr.heap.size := (Array.getElem?_eq_some_iff.1 hrow).1
        clear hbt hrow hbw
        have hln : (numsB [s, q, u, ok, n]).length ≤ 30 := numsB_len [s, q, u, ok, n]
        have hta := textOut_size a
        have htb := textOut_size b
        have hda : (textOut a).data.toList.length = (textOut a).size := by simp
        have hdb : (textOut b).data.toList.length = (textOut b).size := by simp
        by_cases hlt : j < 2
        · obtain ⟨x, hx⟩ : ∃ x, [a, b][j]? = some x := ⟨_, List.getElem?_eq_getElem (by simpa using hlt)⟩
          have hxs : x.size ≤ 5000 := by
            have := List.mem_of_getElem? hx
            simp at this
            rcases this with rfl | rfl
            · exact ha
            · exact hb
          have hl : ((numsB [s, q, u, ok, n] ++ ([a, b].take j).flatMap fun x => (textOut x).data.toList)).length ≤ 20000 := by
            rw [List.length_append]
            rcases (by omega : j = 0 ∨ j = 1) with rfl | rfl
            · simp; omega
            · simp; omega
          have hcx : wr.cell? ⟨wq.heap.size, j, none⟩ = some (.string x) := by
            rw [Lib.cell_of_heap HR'.out]
            have e : (#[Value.string a, .string b])[j]? = ([a, b].map Value.string)[j]? := by simp
            rw [e, List.getElem?_map, hx]
            rfl
          have CT := chid (fun w => text_ok x w hxs)
          have hsx := textOut_size x
          obtain ⟨t, ht⟩ : ∃ t, t = textOut x := ⟨_, rfl⟩
          rw [← ht] at CT hsx
          have HTT := chid ht
          have HX := chid hx
          clear hx ht hta htb hda hdb hln
          go_wp2_with fail
          refine (CT.out _).mono ?_
          rintro e w2 ⟨rfl, hb2⟩
          have HT2 := chid (HT'.out.below hb2)
          have HR2 : Hid (w2.heap[wq.heap.size]? = _) := (hb2.block _ hzr').trans HR'.out
          have HB2 := chid (HB'.out.trans (hb2.mono (by omega)))
          have hz2 : wr.heap.size ≤ w2.heap.size := hb2.size
          clear hb2 hcx
          go_wp2_with fail
          refine (writeString_any (w.heap.size + 1) (w.heap.size + 1) _ t w2 HT2.out (by omega) (by omega)).mono ?_
          rintro e w3 ⟨rfl, hb3, hb4, hk3⟩
          have HT3 := chid hb3
          have HR3 := chid (kept_row hk3 HR2.out (by omega) (by decide))
          have HB3 := chid (HB2.out.trans hb4)
          clear hb3 hb4 hk3
          go_wp2
          go_roundw
          case rel =>
            refine ⟨_, _, _, _, _, _, _, _, _, _, _, _, _, _, _, ⟨j + 1, by omega, by go_num, ?_, HR3.out, HB3.out⟩, rfl⟩
            rw [take_snocC HX.out, List.flatMap_append, ← List.append_assoc]
            simp only [List.flatMap_cons, List.flatMap_nil, List.append_nil]
            rw [← HTT.out]
            exact HT3.out
          case measure => simp [intOf]; omega
        · obtain rfl : j = 2 := by omega
          clear hta htb hda hdb hln hlt hj
          have HL : Hid ((numsB [s, q, u, ok, n] ++ ([a, b].take 2).flatMap fun x => (textOut x).data.toList) = numsB [s, q, u, ok, n] ++ ((textOut a).data.toList ++ (textOut b).data.toList)) := (by simp : (numsB [s, q, u, ok, n] ++ ([a, b].take 2).flatMap fun x => (textOut x).data.toList) = numsB [s, q, u, ok, n] ++ ((textOut a).data.toList ++ (textOut b).data.toList))
          rw [HL.out] at HT'
          go_wp2_with fail
          refine (buildString_any (w.heap.size + 1) (w.heap.size + 1) _ wr HT'.out (by omega)).mono ?_
          rintro e w3 ⟨rfl, hb3⟩
          have HB3 := chid (HBX.out.trans ((HB'.out.trans hb3).mono (by omega)))
          clear hb3
          go_wp2
          go_ret
          exact ⟨rfl, HB3.out⟩

end Go.Proofs.YtijilhbdbeajjaaGreatDoor

namespace Go.Proofs.YtijilhbdbeajjaaGreatDoor

open Go.RowKit

theorem conv2 (W : World) (a b : Int) :
    (convert 147 9 (.slice (some ⟨W.heap.size, 0, none⟩) 2 2)).run Tryz.prog (W.alloc (.cells #[.int .u8 a, .int .u8 b] 5))
      = .ok (.string (strOfNums [a, b])) (W.alloc (.cells #[.int .u8 a, .int .u8 b] 5)) := by
  refine run_convert_bytes_arg _ 147 5 Tryz.underlying147 Tryz.underlying5 W.heap.size 0 2 2 [a, b] rfl ?_ 9 Tryz.underlying9
  intro i hi
  match i, hi with
  | 0, _ => simp
  | 1, _ => simp

/-- The bytes of a Call behind its head. -/
def tailOut (s q u ok : Int) (a b : ByteArray) (n : Int) : ByteArray := ⟨(numsB [s, q, u, ok, n] ++ ((textOut a).data.toList ++ (textOut b).data.toList)).toArray⟩

theorem tailOut_eq (c : CmdD) : tailOut c.session c.seq c.acked c.ok c.a c.b c.n = callOut c := by
  apply ByteArray.ext
  apply Array.toList_inj.1
  simp [tailOut, callOut, numsB, numOut]

theorem tailOut_size (s q u ok : Int) (a b : ByteArray) (n : Int) (ha : a.size ≤ 12) (hb : b.size ≤ 12) : (tailOut s q u ok a b n).size ≤ 100 := by
  have h1 : (tailOut s q u ok a b n).size = (numsB [s, q, u, ok, n] ++ ((textOut a).data.toList ++ (textOut b).data.toList)).length := by
    show (_ : Array UInt8).size = _
    simp
  have h2 := numsB_len [s, q, u, ok, n]
  have h3 := textOut_size a
  have h4 := textOut_size b
  have h5 : (textOut a).data.toList.length = (textOut a).size := by simp
  have h6 : (textOut b).data.toList.length = (textOut b).size := by simp
  rw [h1, List.length_append, List.length_append]
  simp only [List.length_cons, List.length_nil] at h2
  omega

/-- What a Call that may be is like. -/
theorem opE_ok' {k : Int} {a b : ByteArray} {n : Int} (h : opE k a b n = 0) : (1 ≤ k ∧ k ≤ 6) ∧ a.size ≤ 6 ∧ b.size ≤ 12 ∧ 0 ≤ n ∧ n ≤ 1073741824 := by
  unfold opE at h
  split at h
  · omega
  · split at h
    · omega
    · rename_i h1 h2
      have hn : nameB a = true := by
        cases hc : nameB a with
        | true => rfl
        | false => exact absurd (Or.inl hc) h2
      have hn6 := (nameB_yes hn).2.1
      split at h
      · omega
      · split at h
        · split at h
          · exact ⟨by omega, hn6, by omega, by omega, by omega⟩
          · omega
        · split at h
          · exact ⟨by omega, hn6, by omega, by omega, by omega⟩
          · omega

theorem cmdE_call' {c s q u ok : Int} {a b : ByteArray} {n : Int} (h : cmdE 2 c s q u ok a b n = 0) : (1 ≤ c ∧ c ≤ 9) ∧ (∀ x ∈ [s, q, u, ok, n], 0 ≤ x ∧ x ≤ 1099511627776) ∧ a.size ≤ 12 ∧ b.size ≤ 12 := by
  by_cases h2 : 1 ≤ c ∧ c ≤ 9
  · by_cases hc : callR s q u
    · rw [cmdE_callYes h2 hc] at h
      obtain ⟨hk, ha, hb, hn⟩ := opE_ok' h
      obtain ⟨e1, e2, e3⟩ := hc
      refine ⟨h2, fun x hx => ?_, by omega, by omega⟩
      simp at hx
      rcases hx with rfl | rfl | rfl | rfl | rfl <;> omega
    · rw [cmdE_callNo h2 hc] at h
      omega
  · rw [cmdE_client (by omega) h2] at h
    omega

theorem cmdE_head' {k c s q u ok : Int} {a b : ByteArray} {n : Int} (h : cmdE k c s q u ok a b n = 0) : (1 ≤ k ∧ k ≤ 3) ∧ (1 ≤ c ∧ c ≤ 9) := by
  by_cases h1 : 1 ≤ k ∧ k ≤ 3
  · by_cases h2 : 1 ≤ c ∧ c ≤ 9
    · exact ⟨h1, h2⟩
    · rw [cmdE_client h1 h2] at h; omega
  · rw [cmdE_kind h1] at h; omega

set_option maxHeartbeats 1600000 in
theorem encode_rest (k c s q u ok : Int) (a b : ByteArray) (n : Int) (w : World) (hq : FitsC q) (ha : ShortC a) (hb : ShortC b) (hr : cmdE k c s q u ok a b n = 0) (hk : k ≠ 2) :
    Calls Tryz.prog 192 #[.agg #[.int .i64 k, .int .i64 c, .int .i64 s, .int .i64 q, .int .i64 u, .int .i64 ok, .string a, .string b, .int .i64 n]] w fun e w' => e = .returned (.tuple #[.string (strOfNums [k, c]), .int .i64 0]) ∧ Below w.heap.size w w' := by
  have HB := chid (cbox w k c s q u ok a b n)
  have CC := chid (fun w => cmdCheck_any k c s q u ok a b n w hq ha hb)
  obtain ⟨⟨hk1, hk3⟩, hc1, hc9⟩ := cmdE_head' hr
  rw [hr] at CC
  have hk2 : (k == 2) = false := by simpa using hk
  have hcv := conv2
  clear hr ha hb hq hk
  go_enter Tryz.func192, Tryz.ntmps192
  go_wp2_with fail
  refine (CC.out _).mono ?_
  rintro e w1 ⟨rfl, hb1⟩
  have HB1 := chid (HB.out.trans (hb1.mono (by simp)))
  have g1 : w1.heap[w.heap.size]? = some (.cells #[.int .i64 k, .int .i64 c, .int .i64 s, .int .i64 q, .int .i64 u, .int .i64 ok, .string a, .string b, .int .i64 n] 67 (0, 0)) := (hb1.block _ (by simp)).trans (heap_alloc_new w _)
  have s0 : w1.cell? ⟨w.heap.size, 0, none⟩ = some (.int .i64 k) := cell_of_row w1 w.heap.size 0 _ _ _ g1
  have s1 : w1.cell? ⟨w.heap.size, 1, none⟩ = some (.int .i64 c) := cell_of_row w1 w.heap.size 1 _ _ _ g1
  have hz : w.heap.size < w1.heap.size := (Array.getElem?_eq_some_iff.1 g1).1
  have hzn : w.heap.size ≠ w1.heap.size := by omega
  clear hb1 g1
  go_wp2
  go_ret2
  exact ⟨rfl, HB1.out.alloc HB1.out.size _⟩

set_option maxHeartbeats 1600000 in
theorem encode_call (c s q u ok : Int) (a b : ByteArray) (n : Int) (w : World) (hq : FitsC q) (ha : ShortC a) (hb : ShortC b) (hr : cmdE 2 c s q u ok a b n = 0) :
    Calls Tryz.prog 192 #[.agg #[.int .i64 2, .int .i64 c, .int .i64 s, .int .i64 q, .int .i64 u, .int .i64 ok, .string a, .string b, .int .i64 n]] w fun e w' => e = .returned (.tuple #[.string (strOfNums [2, c] ++ tailOut s q u ok a b n), .int .i64 0]) ∧ Below w.heap.size w w' := by
  have HB := chid (cbox w 2 c s q u ok a b n)
  have CC := chid (fun w => cmdCheck_any 2 c s q u ok a b n w hq ha hb)
  obtain ⟨⟨hc1, hc9⟩, hN, ha12, hb12⟩ := cmdE_call' hr
  have CB := chid (fun w => callBytes_any 2 c s q u ok a b n w hN (by omega) (by omega))
  have hsz := tailOut_size s q u ok a b n ha12 hb12
  obtain ⟨t, ht⟩ : ∃ t, t = tailOut s q u ok a b n := ⟨_, rfl⟩
  have ht' : (⟨(numsB [s, q, u, ok, n] ++ ((textOut a).data.toList ++ (textOut b).data.toList)).toArray⟩ : ByteArray) = t := by rw [ht]; rfl
  rw [ht'] at CB
  rw [← ht] at hsz ⊢
  rw [hr] at CC
  have hcv := conv2
  have h2s : (strOfNums [2, c]).size = 2 := strOfNums_size _
  have hsum : (strOfNums [2, c]).size + t.size ≤ 102 := by omega
  clear hr ha hb hq hN ha12 hb12 ht ht' h2s
  go_enter Tryz.func192, Tryz.ntmps192
  go_wp2_with fail
  refine (CC.out _).mono ?_
  rintro e w1 ⟨rfl, hb1⟩
  have HB1 := chid (HB.out.trans (hb1.mono (by simp)))
  have g1 : w1.heap[w.heap.size]? = some (.cells #[.int .i64 2, .int .i64 c, .int .i64 s, .int .i64 q, .int .i64 u, .int .i64 ok, .string a, .string b, .int .i64 n] 67 (0, 0)) := (hb1.block _ (by simp)).trans (heap_alloc_new w _)
  have s0 : w1.cell? ⟨w.heap.size, 0, none⟩ = some (.int .i64 2) := cell_of_row w1 w.heap.size 0 _ _ _ g1
  have s1 : w1.cell? ⟨w.heap.size, 1, none⟩ = some (.int .i64 c) := cell_of_row w1 w.heap.size 1 _ _ _ g1
  have s2 : w1.cell? ⟨w.heap.size, 2, none⟩ = some (.int .i64 s) := cell_of_row w1 w.heap.size 2 _ _ _ g1
  have s3 : w1.cell? ⟨w.heap.size, 3, none⟩ = some (.int .i64 q) := cell_of_row w1 w.heap.size 3 _ _ _ g1
  have s4 : w1.cell? ⟨w.heap.size, 4, none⟩ = some (.int .i64 u) := cell_of_row w1 w.heap.size 4 _ _ _ g1
  have s5 : w1.cell? ⟨w.heap.size, 5, none⟩ = some (.int .i64 ok) := cell_of_row w1 w.heap.size 5 _ _ _ g1
  have s6 : w1.cell? ⟨w.heap.size, 6, none⟩ = some (.string a) := cell_of_row w1 w.heap.size 6 _ _ _ g1
  have s7 : w1.cell? ⟨w.heap.size, 7, none⟩ = some (.string b) := cell_of_row w1 w.heap.size 7 _ _ _ g1
  have s8 : w1.cell? ⟨w.heap.size, 8, none⟩ = some (.int .i64 n) := cell_of_row w1 w.heap.size 8 _ _ _ g1
  have hz : w.heap.size < w1.heap.size := (Array.getElem?_eq_some_iff.1 g1).1
  have hzn : w.heap.size ≠ w1.heap.size := by omega
  have HB1' := chid (HB1.out.alloc HB1.out.size (.cells #[.int .u8 2, .int .u8 c] 5))
  clear hb1 g1
  go_wp2_with fail
  refine (CB.out _).mono ?_
  rintro e w2 ⟨rfl, hb2⟩
  have HB2 := chid (HB1'.out.trans (hb2.mono HB1'.out.size))
  clear hb2
  go_wp2
  go_ret2
  exact ⟨rfl, HB2.out⟩

end Go.Proofs.YtijilhbdbeajjaaGreatDoor

namespace Go.Proofs.YtijilhbdbeajjaaGreatDoor

open Go.RowKit

/-- Numbers as bytes. -/
def u8 (l : List Int) : List UInt8 := l.map fun n => UInt8.ofNat n.toNat

theorem u8_length (l : List Int) : (u8 l).length = l.length := by simp [u8]

theorem bytes_append (l : List Int) (s : ByteArray) : (strOfNums l ++ s).data.toList = u8 l ++ s.data.toList := by
  rw [ByteArray.data_append, Array.toList_append, strOfNums_data]; rfl

theorem ofNat_toNat (n : Int) (h0 : 0 ≤ n) (h1 : n < 256) : (((UInt8.ofNat n.toNat).toNat : Nat) : Int) = n := by
  rw [UInt8.toNat_ofNat']; omega

/-- Counting digits of a written number. -/
theorem cd_enc (f : Nat) : ∀ (m : Int) (R : List UInt8), 0 ≤ m → m < reach f → cd (u8 (enc f m) ++ R) = (enc f m).length := by
  induction f with
  | zero =>
    intro m R h0 h1
    have := ofNat_toNat m h0 (by simp [reach] at h1; omega)
    simp [reach] at h1
    simp only [enc, u8, List.map_cons, List.map_nil, List.cons_append, List.nil_append, cd, List.length_cons, List.length_nil]
    rw [if_pos (by omega)]
  | succ f ih =>
    intro m R h0 h1
    by_cases h : m < 128
    · have := ofNat_toNat m h0 (by omega)
      rw [enc_small _ _ h]
      simp only [u8, List.map_cons, List.map_nil, List.cons_append, List.nil_append, cd, List.length_cons, List.length_nil]
      rw [if_pos (by omega)]
    · have hd := reach_div f m h0 h1
      have hi := ih (m / 128) R hd.1 hd.2
      have hl := (enc_length f (m / 128)).1
      have := ofNat_toNat (m % 128 + 128) (by omega) (by omega)
      rw [enc_step _ _ h]
      have e : u8 ((m % 128 + 128) :: enc f (m / 128)) ++ R = UInt8.ofNat (m % 128 + 128).toNat :: (u8 (enc f (m / 128)) ++ R) := rfl
      rw [e]
      simp only [cd, List.length_cons]
      rw [hi, if_neg (by omega), if_neg (by omega)]

theorem dec_enc (f : Nat) : ∀ (m : Int), 0 ≤ m → m < reach f → dec (u8 (enc f m)) = m := by
  induction f with
  | zero =>
    intro m h0 h1
    simp [reach] at h1
    have := ofNat_toNat m h0 (by omega)
    simp only [enc, u8, List.map_cons, List.map_nil, dec]
    omega
  | succ f ih =>
    intro m h0 h1
    by_cases h : m < 128
    · have := ofNat_toNat m h0 (by omega)
      rw [enc_small _ _ h]
      simp only [u8, List.map_cons, List.map_nil, dec]
      omega
    · have hd := reach_div f m h0 h1
      have hi := ih (m / 128) hd.1 hd.2
      have := ofNat_toNat (m % 128 + 128) (by omega) (by omega)
      rw [enc_step _ _ h]
      have e : u8 ((m % 128 + 128) :: enc f (m / 128)) = UInt8.ofNat (m % 128 + 128).toNat :: u8 (enc f (m / 128)) := rfl
      rw [e]
      simp only [dec]
      rw [hi]
      omega

/-- The last digit of a number from 1 on is not 0. -/
theorem last_enc (f : Nat) : ∀ (m : Int) (R : List UInt8), 1 ≤ m → m < reach f → ((u8 (enc f m) ++ R).getD ((enc f m).length - 1) 0).toNat ≠ 0 := by
  induction f with
  | zero =>
    intro m R h0 h1
    simp [reach] at h1
    have := ofNat_toNat m (by omega) (by omega)
    simp only [enc, u8, List.map_cons, List.map_nil, List.cons_append, List.nil_append, List.length_cons, List.length_nil]
    simp
    omega
  | succ f ih =>
    intro m R h0 h1
    by_cases h : m < 128
    · have := ofNat_toNat m (by omega) (by omega)
      rw [enc_small _ _ h]
      simp only [u8, List.map_cons, List.map_nil, List.cons_append, List.nil_append, List.length_cons, List.length_nil]
      simp
      omega
    · have hd := reach_div f m (by omega) h1
      have hi := ih (m / 128) R (by omega) hd.2
      have hl := (enc_length f (m / 128)).1
      rw [enc_step _ _ h]
      have e : u8 ((m % 128 + 128) :: enc f (m / 128)) ++ R = UInt8.ofNat (m % 128 + 128).toNat :: (u8 (enc f (m / 128)) ++ R) := rfl
      rw [e, List.length_cons, Nat.add_sub_cancel]
      obtain ⟨q, hq⟩ : ∃ q, (enc f (m / 128)).length = q + 1 := ⟨(enc f (m / 128)).length - 1, by omega⟩
      rw [hq] at hi ⊢
      simpa using hi

/-- All digits but the last have 128 and more. -/
theorem init_enc (f : Nat) : ∀ (m : Int) (j : Nat), 0 ≤ m → m < reach f → j + 1 < (enc f m).length → 128 ≤ ((u8 (enc f m)).getD j 0).toNat := by
  induction f with
  | zero => intro m j _ _ hj; simp [enc] at hj
  | succ f ih =>
    intro m j h0 h1 hj
    by_cases h : m < 128
    · rw [enc_small _ _ h] at hj; simp at hj
    · have hd := reach_div f m h0 h1
      have := ofNat_toNat (m % 128 + 128) (by omega) (by omega)
      rw [enc_step _ _ h] at hj ⊢
      have e : u8 ((m % 128 + 128) :: enc f (m / 128)) = UInt8.ofNat (m % 128 + 128).toNat :: u8 (enc f (m / 128)) := rfl
      rw [e]
      cases j with
      | zero => simp only [List.getD_cons_zero]; omega
      | succ j => simp only [List.getD_cons_succ]; exact ih (m / 128) j hd.1 hd.2 (by simpa using hj)

theorem lt_reach5 (n : Int) (h : n ≤ 1099511627776) : n < reach 5 := by rw [reach5]; omega

theorem tail_of (a b : ByteArray) (n : Nat) (h : n = a.size) : (a ++ b).extract n (a ++ b).size = b := by
  subst h
  apply ByteArray.ext
  apply Array.toList_inj.1
  rw [Lib.extract_data, ByteArray.data_append, Array.toList_append, ByteArray.size_append]
  have h1 : a.data.toList.length = a.size := by simp
  have h2 : b.data.toList.length = b.size := by simp
  rw [List.drop_left' h1]
  exact List.take_of_length_le (by omega)

end Go.Proofs.YtijilhbdbeajjaaGreatDoor
