/- The document's CustomerCopy, CustomerOf, knownOf; clients held against one another (joined by program) -/
import Derived.Deep.AppendLies
import Derived.Deep.RegionHeld3
import Derived.Deep.QuietTactic
import Derived.BigQuiet
import Derived.Test.YtcjoekjjebcomalCH06
import Derived.Test.YtcjoekjjebcomalCH10
import Derived.Test.YtcjoekjjebcomalCH14
namespace Go.Proofs.Ytcjoekjjebcomal

open Go.RowKit

theorem cust_cells {w : World} {b : Nat} {x0 x1 x2 x3 : Value} {t : TypeId} (h : w.heap[b]? = some (.cells #[x0, x1, x2, x3] t (0, 0))) :
    w.cell? ⟨b, 0, none⟩ = some x0 ∧ w.cell? ⟨b, 1, none⟩ = some x1 ∧ w.cell? ⟨b, 2, none⟩ = some x2 ∧ w.cell? ⟨b, 3, none⟩ = some x3 ∧ (∀ j, w.frozen? ⟨b, j, none⟩ = false) :=
  ⟨cell_of_row w b 0 _ _ _ h, cell_of_row w b 1 _ _ _ h, cell_of_row w b 2 _ _ _ h, cell_of_row w b 3 _ _ _ h, fun j => frozen_of_row w b j _ _ h⟩

theorem waits_news {w w' : World} {B : Nat} {ao : Option Addr} {cap : Nat} {ks : List WaitD} (h : WaitsR w B (.slice ao ks.length cap) ks) (hb : Below B w w') : ∀ a, ao = some a → ∀ j u, (flatG waitCells ks)[j]? = some u → w'.cell? (a.add j) = some u := by
  obtain ⟨ao', cap', he, h1, h2, h3, h4⟩ := h
  simp only [Value.slice.injEq] at he
  obtain ⟨rfl, -, rfl⟩ := he
  intro a ha j u hj
  have hjl : j < ks.length * 5 := by rw [← flatG_length waitCells_len]; exact (List.getElem?_eq_some_iff.1 hj).1
  obtain ⟨b, off, e, hlt, hc⟩ := h4 (by omega)
  rw [ha] at e
  simp only [Option.some.injEq] at e
  subst e
  rw [gadd]
  exact (hb.cell (p := ⟨b, off + j, none⟩) hlt).trans (waits_cells hc j u hj)

theorem waits_none {w : World} {B : Nat} {ao : Option Addr} {cap : Nat} {ks : List WaitD} (h : WaitsR w B (.slice ao ks.length cap) ks) : ao = none → ks.length = 0 ∧ cap = 0 := by
  obtain ⟨ao', cap', he, h1, h2, h3, h4⟩ := h
  simp only [Value.slice.injEq] at he
  obtain ⟨rfl, -, rfl⟩ := he
  intro e
  have := h3 e
  omega

theorem zset4_row {w : World} {base : Nat} {e : TypeId} {size : Nat} {v : Value} {n : Nat} {xs : List Value} (h : w.ownsRow base e size v n xs) {b : Nat} (hb : b < base) (a0 a1 a2 a3 : Value) : ((((w.setCell ⟨b, 0, none⟩ a0).setCell ⟨b, 1, none⟩ a1).setCell ⟨b, 2, none⟩ a2).setCell ⟨b, 3, none⟩ a3).ownsRow base e size v n xs :=
  grow_keep h fun c hc => by
    have := (h.lt c hc).1
    rw [heap_setCell_other _ _ _ _ (by simp; omega), heap_setCell_other _ _ _ _ (by simp; omega), heap_setCell_other _ _ _ _ (by simp; omega), heap_setCell_other _ _ _ _ (by simp; omega)]

set_option maxRecDepth 100000 in
set_option maxHeartbeats 1600000 in
theorem customerCopy_any (v : Value) (c : CustD) (w : World) (B : Nat) (hv : CustR w B v c) (hB : B ≤ w.heap.size) :
    Calls Try.prog 4 #[v] w fun e w' => ∃ wv, e = .returned (.agg #[.int .i64 c.id, .int .i64 c.session, .int .i64 c.next, wv]) ∧ w'.ownsRow (w.heap.size + 1) 42 5 wv c.waits.length (flatG waitCells c.waits) ∧ Below w.heap.size w w' := by
  obtain ⟨i0, hi, hz0, hz1, hz2⟩ := info_parts Try.infoWait
  obtain ⟨ao, cap, rfl, hw⟩ := hv.shape
  obtain ⟨id, se, nx, ws⟩ := c
  simp only at hw ⊢
  have hlen := hw.len
  have hb0 : Below w.heap.size w ((w.alloc (.cells #[.int .i64 id, .int .i64 se, .int .i64 nx, .slice ao ws.length cap] 24)).alloc (.cells #[.int .i64 0, .int .i64 0, .int .i64 0, .slice none 0 0] 24)).drew := (((Below.refl _ _).alloc (Nat.le_refl _) _).alloc (by simp) _).drew
  have HN1 := ghid (waits_none hw)
  have HN2 := ghid (waits_news hw (hb0.mono hB))
  have HL : Hid ((flatG waitCells ws).length = ws.length * 5) := flatG_length waitCells_len ws
  have HO : Hid (∀ u ∈ flatG waitCells ws, u.oneCell' = true) := flatG_one waitCells_one ws
  have HXB : Hid (((w.alloc (.cells #[.int .i64 id, .int .i64 se, .int .i64 nx, .slice ao ws.length cap] 24)).alloc (.cells #[.int .i64 0, .int .i64 0, .int .i64 0, .slice none 0 0] 24)).drew.heap[w.heap.size]? = some (.cells #[.int .i64 id, .int .i64 se, .int .i64 nx, .slice ao ws.length cap] 24 (0, 0))) := by
    show (World.alloc _ _).heap[_]? = _
    rw [Below.heap_alloc _ _ _ (by simp)]
    exact heap_alloc_new w _
  have HXR : Hid (((w.alloc (.cells #[.int .i64 id, .int .i64 se, .int .i64 nx, .slice ao ws.length cap] 24)).alloc (.cells #[.int .i64 0, .int .i64 0, .int .i64 0, .slice none 0 0] 24)).drew.heap[w.heap.size + 1]? = some (.cells #[.int .i64 0, .int .i64 0, .int .i64 0, .slice none 0 0] 24 (0, 0))) := by
    have := heap_alloc_new (w.alloc (.cells #[.int .i64 id, .int .i64 se, .int .i64 nx, .slice ao ws.length cap] 24)) (.cells #[.int .i64 0, .int .i64 0, .int .i64 0, .slice none 0 0] 24)
    rw [show (w.alloc (.cells #[.int .i64 id, .int .i64 se, .int .i64 nx, .slice ao ws.length cap] 24)).heap.size = w.heap.size + 1 by simp] at this
    exact this
  have HB0 := ghid hb0
  clear hv hw hb0
  go_enter Try.func4, Try.ntmps4
  go_wp2_with fail
  go_region_held3 (fun w' => w'.cell? ⟨w.heap.size, 0, none⟩ = some (.int .i64 id) ∧ w'.cell? ⟨w.heap.size, 1, none⟩ = some (.int .i64 se) ∧ w'.cell? ⟨w.heap.size, 2, none⟩ = some (.int .i64 nx) ∧ w'.cell? ⟨w.heap.size, 3, none⟩ = some (.slice ao ws.length cap)) (go_keep)
    (first
      | (refine step_append_fresh rfl _ (.tmp 10) 22 rfl 42 i0 _ 5 56 Try.underlying22 hi hz0 hz1 hz2 rfl (by decide) (by simp [Act.eval]) ao ws.length cap (flatG waitCells ws) (by simp [Act.eval]) HN1.out HL.out HN2.out HO.out (by unfold maxLen; omega) (by omega) ?_; intro v1 w1 hown1 hg1; obtain ⟨vo, vc, rfl⟩ := grow_shape hown1; have hzz : w.heap.size + 2 ≤ w1.heap.size := (by have := hg1.size; simpa using this); have hbx : w1.heap[w.heap.size]? = _ := (hg1.block _ (by simp; omega) (by intro h; cases h)).trans HXB.out; have hrx : w1.heap[w.heap.size + 1]? = _ := (hg1.block _ (by simp) (by intro h; cases h)).trans HXR.out; obtain ⟨b0, b1, b2, b3, bf⟩ := cust_cells hbx; obtain ⟨z0, z1, z2, z3, zf⟩ := cust_cells hrx))
  have HR1 := ghid (grow_mono (zset4_row (b := w.heap.size + 1) hown1 (by simp) (.int .i64 id) (.int .i64 se) (.int .i64 nx) (.slice vo ws.length vc)) (by simp : w.heap.size + 1 ≤ _))
  have HB1 := ghid (zset4 (b := w.heap.size + 1) (HB0.out.grown hg1 (by simp; omega) (fun k hk => by cases hk)) (by omega) (.int .i64 id) (.int .i64 se) (.int .i64 nx) (.slice vo ws.length vc))
  clear hown1 hg1 hi hz0 hz1 hz2 hbx hrx
  go_wp2
  refine bodyPost_ret (v := .agg #[.int .i64 id, .int .i64 se, .int .i64 nx, .slice vo ws.length vc]) (by simp [results, Try.results4, go_sem, z0, z1, z2, z3]) rfl ?_
  exact ⟨_, rfl, HR1.out, HB1.out⟩

theorem op_self (d : Nat) (k n : Int) (a b : ByteArray) (w : World) : (Op.equalIn (d + 2) 40 (.agg #[.int .i64 k, .string a, .string b, .int .i64 n]) (.agg #[.int .i64 k, .string a, .string b, .int .i64 n])).run Try.prog w = .ok true w := by
  have u3 := Try.underlying3
  have a3 := Try.isAgg3
  have z3 := Try.sizeOf3
  have u9 := Try.underlying9
  have a9 := Try.isAgg9
  have z9 := Try.sizeOf9
  have hS : Try.prog.underlying 40 = some (.struct (Try.prog.fieldsOf 40)) := by kernel_rfl
  have hp : Try.prog.stoodInHeld 40 = false := by kernel_rfl
  rw [run_equalIn_agg w (d + 1) 40 _ _ hS hp]
  simp only [Program.fieldsOf, Try.underlying40]
  go_simp

theorem wait_neq (q k n : Int) (a b : ByteArray) (w : World) : (binOp .neq 42 (.agg #[.int .i64 q, .int .i64 k, .string a, .string b, .int .i64 n]) (.agg #[.int .i64 q, .int .i64 k, .string a, .string b, .int .i64 n])).run Try.prog w = .ok (.bool false) w := by
  have u3 := Try.underlying3
  have a3 := Try.isAgg3
  have z3 := Try.sizeOf3
  have a34 := Try.isAgg40
  have z34 := Try.sizeOf40
  have ho := op_self 9997 k n a b
  have hS : Try.prog.underlying 42 = some (.struct (Try.prog.fieldsOf 42)) := by kernel_rfl
  have hp : Try.prog.stoodInHeld 42 = false := by kernel_rfl
  rw [run_neq_struct, show (10000 : Nat) = 9999 + 1 from rfl, run_equalIn_agg w 9999 42 _ _ hS hp]
  simp only [Program.fieldsOf, Try.underlying42]
  go_simp

set_option maxRecDepth 100000 in
set_option maxHeartbeats 3200000 in
/-- The law's sameCustomer: what reads as one client is the same. -/
theorem sameCustomer_eq (v u : Value) (c : CustD) (w : World) (B B' : Nat) (hv : CustR w B v c) (hu : CustR w B' u c) (hB : B ≤ w.heap.size) (hB' : B' ≤ w.heap.size) :
    Calls Try.prog 7 #[v, u] w fun e w' => e = .returned (.bool true) ∧ Below w.heap.size w w' := by
  obtain ⟨ao, ac, rfl, hw⟩ := hv.shape
  obtain ⟨bo, bc, rfl, hx⟩ := hu.shape
  obtain ⟨id, se, nx, ws⟩ := c
  simp only at hw hx ⊢
  obtain ⟨W, hW⟩ : ∃ W, W = (w.alloc (.cells #[.int .i64 id, .int .i64 se, .int .i64 nx, .slice ao ws.length ac] 24)).alloc (.cells #[.int .i64 id, .int .i64 se, .int .i64 nx, .slice bo ws.length bc] 24) := ⟨_, rfl⟩
  have hb : Below w.heap.size w W := by rw [hW]; exact ((Below.refl w.heap.size w).alloc (Nat.le_refl _) _).alloc (by simp) _
  have HX : Hid (W.heap[w.heap.size]? = some (.cells #[.int .i64 id, .int .i64 se, .int .i64 nx, .slice ao ws.length ac] 24 (0, 0))) := by
    rw [hW]
    unfold Hid
    rw [Below.heap_alloc _ _ _ (by simp)]
    exact heap_alloc_new w _
  have HY : Hid (W.heap[w.heap.size + 1]? = some (.cells #[.int .i64 id, .int .i64 se, .int .i64 nx, .slice bo ws.length bc] 24 (0, 0))) := by
    rw [hW]
    have := heap_alloc_new (w.alloc (.cells #[.int .i64 id, .int .i64 se, .int .i64 nx, .slice ao ws.length ac] 24)) (.cells #[.int .i64 id, .int .i64 se, .int .i64 nx, .slice bo ws.length bc] 24)
    rw [show (w.alloc (.cells #[.int .i64 id, .int .i64 se, .int .i64 nx, .slice ao ws.length ac] 24)).heap.size = w.heap.size + 1 by simp] at this
    exact this
  have HW := ghid (hw.below hb hB)
  have HU := ghid (hx.below hb hB')
  have HB := ghid hb
  have HWW := ghid hW
  have hlen := hw.len
  clear hv hu hw hx hb hW
  go_enter Try.func7, Try.ntmps7
  go_wp2
  rw [← HWW.out]
  go_loopw [5] (fun i wr => ∃ k n : Nat, k ≤ ws.length ∧ i = .int .i64 k ∧ wr = W.drewN n) (fun i _ => ws.length - (intOf i).toNat)
  case atStart => exact ⟨0, 0, Nat.zero_le _, rfl, rfl⟩
  case round =>
    obtain ⟨k, n, hk, rfl, rfl⟩ := hrel
    obtain ⟨p0, p1, p2, p3, -⟩ := cust_cells HX.out
    obtain ⟨q0, q1, q2, q3, -⟩ := cust_cells HY.out
    by_cases hlt : k < ws.length
    · obtain ⟨ao', cap', he, -, -, -, h4⟩ := HW.out
      simp only [Value.slice.injEq] at he
      obtain ⟨rfl, -, rfl⟩ := he
      obtain ⟨b, off, rfl, hb, hc⟩ := h4 (by omega)
      obtain ⟨au', cau', he, -, -, -, g4⟩ := HU.out
      simp only [Value.slice.injEq] at he
      obtain ⟨rfl, -, rfl⟩ := he
      obtain ⟨b', off', rfl, hb', hc'⟩ := g4 (by omega)
      obtain ⟨x, hx⟩ : ∃ x, ws[k]? = some x := ⟨_, List.getElem?_eq_getElem hlt⟩
      obtain ⟨c0, c1, c2, c3, c4, -⟩ := hc k x hx
      obtain ⟨d0, d1, d2, d3, d4, -⟩ := hc' k x hx
      obtain ⟨xq, xk, xa, xb, xn⟩ := x
      simp only at c0 c1 c2 c3 c4 d0 d1 d2 d3 d4
      have hq := fun w => wait_neq xq xk xn xa xb w
      have hgd : Try.prog.eqGuardType Try.prog.depth 42 = false := by kernel_rfl
      clear hx hc h4 hc' g4
      go_wp2
      go_quiet (fail)
      go_wp2
      go_roundw
      case rel => exact ⟨k + 1, _, by omega, by go_num, rfl⟩
      case measure => simp [intOf]; omega
    · go_wp2
      go_ret
      exact ⟨rfl, HB.out.trans (g_drewN_below _ _ _)⟩

end Go.Proofs.Ytcjoekjjebcomal
