/- The document's CustomerCopy, CustomerOf, knownOf; clients held against one another (joined by program) -/
import Derived.WalkKit
import Derived.ProofKit
import Derived.Laws.CopyOwn
import Derived.Laws.AppendOwn
import Derived.RegionTactic
import Derived.Deep.AppendLies
import Derived.Deep.RegionHeld3
import Derived.Deep.QuietTactic
import Derived.BigQuiet
import Derived.Test.YtcjoekjjebcomakCN04
import Derived.Test.YtcjoekjjebcomakCN07
namespace Go.Proofs.Ytcjoekjjebcomak

open Go.RowKit

theorem cust_cells {w : World} {b : Nat} {x0 x1 x2 x3 : Value} {t : TypeId} (h : w.heap[b]? = some (.cells #[x0, x1, x2, x3] t (0, 0))) :
    w.cell? ⟨b, 0, none⟩ = some x0 ∧ w.cell? ⟨b, 1, none⟩ = some x1 ∧ w.cell? ⟨b, 2, none⟩ = some x2 ∧ w.cell? ⟨b, 3, none⟩ = some x3 ∧ (∀ j, w.frozen? ⟨b, j, none⟩ = false) :=
  ⟨cell_of_row w b 0 _ _ _ h, cell_of_row w b 1 _ _ _ h, cell_of_row w b 2 _ _ _ h, cell_of_row w b 3 _ _ _ h, fun j => frozen_of_row w b j _ _ h⟩

theorem op_self (d : Nat) (k n : Int) (a b : ByteArray) (w : World) : (Op.equalIn (d + 2) 34 (.agg #[.int .i64 k, .string a, .string b, .int .i64 n]) (.agg #[.int .i64 k, .string a, .string b, .int .i64 n])).run Try.prog w = .ok true w := by
  have u3 := Try.underlying3
  have a3 := Try.isAgg3
  have z3 := Try.sizeOf3
  have u9 := Try.underlying9
  have a9 := Try.isAgg9
  have z9 := Try.sizeOf9
  have hS : Try.prog.underlying 34 = some (.struct (Try.prog.fieldsOf 34)) := by kernel_rfl
  have hp : Try.prog.stoodInHeld 34 = false := by kernel_rfl
  rw [run_equalIn_agg w (d + 1) 34 _ _ hS hp]
  simp only [Program.fieldsOf, Try.underlying34]
  go_simp

theorem wait_neq (q k n : Int) (a b : ByteArray) (w : World) : (binOp .neq 43 (.agg #[.int .i64 q, .int .i64 k, .string a, .string b, .int .i64 n]) (.agg #[.int .i64 q, .int .i64 k, .string a, .string b, .int .i64 n])).run Try.prog w = .ok (.bool false) w := by
  have u3 := Try.underlying3
  have a3 := Try.isAgg3
  have z3 := Try.sizeOf3
  have a34 := Try.isAgg34
  have z34 := Try.sizeOf34
  have ho := op_self 9997 k n a b
  have hS : Try.prog.underlying 43 = some (.struct (Try.prog.fieldsOf 43)) := by kernel_rfl
  have hp : Try.prog.stoodInHeld 43 = false := by kernel_rfl
  rw [run_neq_struct, show (10000 : Nat) = 9999 + 1 from rfl, run_equalIn_agg w 9999 43 _ _ hS hp]
  simp only [Program.fieldsOf, Try.underlying43]
  go_simp

set_option maxRecDepth 100000 in
set_option maxHeartbeats 3200000 in
/-- The law's sameCustomer: what reads as one client is the same. -/
theorem sameCustomer_eq (v u : Value) (c : CustD) (w : World) (B B' : Nat) (hv : CustR w B v c) (hu : CustR w B' u c) (hB : B ≤ w.heap.size) (hB' : B' ≤ w.heap.size) :
    Calls Try.prog 12 #[v, u] w fun e w' => e = .returned (.bool true) ∧ Below w.heap.size w w' := by
  obtain ⟨ao, ac, rfl, hw⟩ := hv.shape
  obtain ⟨bo, bc, rfl, hx⟩ := hu.shape
  obtain ⟨id, se, nx, ws⟩ := c
  simp only at hw hx ⊢
  obtain ⟨W, hW⟩ : ∃ W, W = (w.alloc (.cells #[.int .i64 id, .int .i64 se, .int .i64 nx, .slice ao ws.length ac] 24)).alloc (.cells #[.int .i64 id, .int .i64 se, .int .i64 nx, .slice bo ws.length bc] 24) := ⟨_, rfl⟩
  have hb : Below w.heap.size w W := by rw [hW]; exact ((Below.refl w.heap.size w).alloc (Nat.le_refl _) _).alloc (by simp) _
  have HX : Hid (W.heap[w.heap.size]? = some (.cells #[.int .i64 id, .int .i64 se, .int .i64 nx, .slice ao ws.length ac] 24 (0, 0))) := by
    rw [hW]
    unfold Hid
    rw [Below.heap_alloc _ _ _ (by simp)]
    exact heap_alloc_new w _
  have HY : Hid (W.heap[w.heap.size + 1]? = some (.cells #[.int .i64 id, .int .i64 se, .int .i64 nx, .slice bo ws.length bc] 24 (0, 0))) := by
    rw [hW]
    have := heap_alloc_new (w.alloc (.cells #[.int .i64 id, .int .i64 se, .int .i64 nx, .slice ao ws.length ac] 24)) (.cells #[.int .i64 id, .int .i64 se, .int .i64 nx, .slice bo ws.length bc] 24)
    rw [show (w.alloc (.cells #[.int .i64 id, .int .i64 se, .int .i64 nx, .slice ao ws.length ac] 24)).heap.size = w.heap.size + 1 by simp] at this
    exact this
  have HW := ghid (hw.below hb hB)
  have HU := ghid (hx.below hb hB')
  have HB := ghid hb
  have HWW := ghid hW
  have hlen := hw.len
  clear hv hu hw hx hb hW
  go_enter Try.func12, Try.ntmps12
  go_wp2
  rw [← HWW.out]
  go_loopw [5] (fun i wr => ∃ k n : Nat, k ≤ ws.length ∧ i = .int .i64 k ∧ wr = W.drewN n) (fun i _ => ws.length - (intOf i).toNat)
  case atStart => exact ⟨0, 0, Nat.zero_le _, rfl, rfl⟩
  case round =>
    obtain ⟨k, n, hk, rfl, rfl⟩ := hrel
    obtain ⟨p0, p1, p2, p3, -⟩ := cust_cells HX.out
    obtain ⟨q0, q1, q2, q3, -⟩ := cust_cells HY.out
    by_cases hlt : k < ws.length
    · obtain ⟨ao', cap', he, -, -, -, h4⟩ := HW.out
      simp only [Value.slice.injEq] at he
      obtain ⟨rfl, -, rfl⟩ := he
      obtain ⟨b, off, rfl, hb, hc⟩ := h4 (by omega)
      obtain ⟨au', cau', he, -, -, -, g4⟩ := HU.out
      simp only [Value.slice.injEq] at he
      obtain ⟨rfl, -, rfl⟩ := he
      obtain ⟨b', off', rfl, hb', hc'⟩ := g4 (by omega)
      obtain ⟨x, hx⟩ : ∃ x, ws[k]? = some x := ⟨_, List.getElem?_eq_getElem hlt⟩
      obtain ⟨c0, c1, c2, c3, c4, -⟩ := hc k x hx
      obtain ⟨d0, d1, d2, d3, d4, -⟩ := hc' k x hx
      obtain ⟨xq, xk, xa, xb, xn⟩ := x
      simp only at c0 c1 c2 c3 c4 d0 d1 d2 d3 d4
      have hq := fun w => wait_neq xq xk xn xa xb w
      have hgd : Try.prog.eqGuardType Try.prog.depth 43 = false := by kernel_rfl
      clear hx hc h4 hc' g4
      go_wp2
      go_quiet (fail)
      go_wp2
      go_roundw
      case rel => exact ⟨k + 1, _, by omega, by go_num, rfl⟩
      case measure => simp [intOf]; omega
    · go_wp2
      go_ret
      exact ⟨rfl, HB.out.trans (g_drewN_below _ _ _)⟩

end Go.Proofs.Ytcjoekjjebcomak
