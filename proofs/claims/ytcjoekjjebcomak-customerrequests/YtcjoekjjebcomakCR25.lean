/- The document's CustomerCopy, CustomerOf, knownOf; clients held against one another (joined by program) -/
import Derived.WalkKit
import Derived.ProofKit
import Derived.Laws.CopyOwn
import Derived.Laws.AppendOwn
import Derived.RegionTactic
import Derived.Deep.AppendLies
import Derived.Deep.RegionHeld3
import Derived.Deep.QuietTactic
import Derived.BigQuiet
import Derived.Test.YtcjoekjjebcomakCR06
import Derived.Test.YtcjoekjjebcomakCR09
namespace Go.Proofs.Ytcjoekjjebcomak

open Go.RowKit

theorem cust_cells {w : World} {b : Nat} {x0 x1 x2 x3 : Value} {t : TypeId} (h : w.heap[b]? = some (.cells #[x0, x1, x2, x3] t (0, 0))) :
    w.cell? ⟨b, 0, none⟩ = some x0 ∧ w.cell? ⟨b, 1, none⟩ = some x1 ∧ w.cell? ⟨b, 2, none⟩ = some x2 ∧ w.cell? ⟨b, 3, none⟩ = some x3 ∧ (∀ j, w.frozen? ⟨b, j, none⟩ = false) :=
  ⟨cell_of_row w b 0 _ _ _ h, cell_of_row w b 1 _ _ _ h, cell_of_row w b 2 _ _ _ h, cell_of_row w b 3 _ _ _ h, fun j => frozen_of_row w b j _ _ h⟩

set_option maxHeartbeats 800000 in
theorem knownOf_any (v : Value) (c : CustD) (w : World) (B : Nat) (hv : CustR w B v c) (hB : B ≤ w.heap.size) (hn : 1 ≤ c.next ∧ c.next ≤ 1048577) (hf : ∀ x ∈ c.waits, 1 ≤ x.seq ∧ x.seq ≤ 1048577) :
    Calls Try.prog 29 #[v] w fun e w' => e = .returned (.int .i64 (knownC c)) ∧ Below w.heap.size w w' := by
  obtain ⟨ao, cap, rfl, hw⟩ := hv.shape
  obtain ⟨id, se, nx, ws⟩ := c
  simp only at hw hn hf ⊢
  have HB0 : Hid (Below w.heap.size w (w.alloc (.cells #[.int .i64 id, .int .i64 se, .int .i64 nx, .slice ao ws.length cap] 24))) := (Below.refl _ _).alloc (Nat.le_refl _) _
  cases ws with
  | nil =>
    clear hv hw
    go_enter Try.func29, Try.ntmps29
    go_wp2
    go_ret
    exact ⟨rfl, HB0.out⟩
  | cons x r =>
    obtain ⟨ao', cap', he, -, -, -, h4⟩ := hw
    simp only [Value.slice.injEq] at he
    obtain ⟨rfl, -, rfl⟩ := he
    obtain ⟨b, off, rfl, hlt, hc⟩ := h4 (by simp)
    obtain ⟨c0, -⟩ := hc 0 x rfl
    rw [Nat.zero_mul, Nat.add_zero] at c0
    have hbw : b < w.heap.size := by omega
    have hx := hf x (by simp)
    have hl : (((x :: r).length : Nat) : Int) = (r.length : Int) + 1 := by simp
    have hle : ((((x :: r).length : Nat) : Int) == 0) = false := by rw [hl]; exact beq_eq_false_iff_ne.2 (by omega)
    have hlp : (0 : Int) < (((x :: r).length : Nat) : Int) := by rw [hl]; omega
    obtain ⟨n, hne⟩ : ∃ n, n = (x :: r).length := ⟨_, rfl⟩
    rw [← hne] at hle hlp HB0 ⊢
    obtain ⟨sq, hsq⟩ : ∃ sq, sq = x.seq := ⟨_, rfl⟩
    have HK : Hid (knownC ⟨id, se, nx, x :: r⟩ = sq - 1) := by rw [hsq]; exact rfl
    rw [← hsq] at c0 hx
    clear hv hc h4 hne hl hf hsq hlt
    go_enter Try.func29, Try.ntmps29
    go_wp2
    go_ret
    exact ⟨by rw [HK.out]; rfl, HB0.out⟩

end Go.Proofs.Ytcjoekjjebcomak
