/- customer.known: what a client knows (joined by program) -/
import Derived.Test.YtcjoekjjebcomakCR06
namespace Go.Proofs.Ytcjoekjjebcomak

open Go.RowKit

set_option maxHeartbeats 800000 in
theorem known_any (v : Value) (c : CustD) (w : World) (B : Nat) (hv : CustR w B v c) (hB : B ≤ w.heap.size) (hn : 1 ≤ c.next ∧ c.next ≤ 1048577) (hf : ∀ x ∈ c.waits, 1 ≤ x.seq ∧ x.seq ≤ 1048577) :
    Calls Try.prog 32 #[v] w fun e w' => e = .returned (.int .i64 (knownC c)) ∧ Below w.heap.size w w' := by
  obtain ⟨ao, cap, rfl, hw⟩ := hv.shape
  obtain ⟨id, se, nx, ws⟩ := c
  simp only at hw hn hf ⊢
  have HB0 : Hid (Below w.heap.size w (w.alloc (.cells #[.int .i64 id, .int .i64 se, .int .i64 nx, .slice ao ws.length cap] 24))) := (Below.refl _ _).alloc (Nat.le_refl _) _
  cases ws with
  | nil =>
    clear hv hw
    go_enter Try.func32, Try.ntmps32
    go_wp2
    go_ret
    exact ⟨rfl, HB0.out⟩
  | cons x r =>
    obtain ⟨ao', cap', he, -, -, -, h4⟩ := hw
    simp only [Value.slice.injEq] at he
    obtain ⟨rfl, -, rfl⟩ := he
    obtain ⟨b, off, rfl, hlt, hc⟩ := h4 (by simp)
    obtain ⟨c0, -⟩ := hc 0 x rfl
    rw [Nat.zero_mul, Nat.add_zero] at c0
    have hbw : b < w.heap.size := by omega
    have hx := hf x (by simp)
    have hl : (((x :: r).length : Nat) : Int) = (r.length : Int) + 1 := by simp
    have hle : ((((x :: r).length : Nat) : Int) == 0) = false := by rw [hl]; exact beq_eq_false_iff_ne.2 (by omega)
    have hlp : (0 : Int) < (((x :: r).length : Nat) : Int) := by rw [hl]; omega
    obtain ⟨n, hne⟩ : ∃ n, n = (x :: r).length := ⟨_, rfl⟩
    rw [← hne] at hle hlp HB0 ⊢
    obtain ⟨sq, hsq⟩ : ∃ sq, sq = x.seq := ⟨_, rfl⟩
    have HK : Hid (knownC ⟨id, se, nx, x :: r⟩ = sq - 1) := by rw [hsq]; exact rfl
    rw [← hsq] at c0 hx
    clear hv hc h4 hne hl hf hsq hlt
    go_enter Try.func32, Try.ntmps32
    go_wp2
    go_ret
    exact ⟨by rw [HK.out]; rfl, HB0.out⟩

/-- Of a client that may be. -/
theorem GoodC.seqs {c : CustD} (h : GoodC c) : ∀ x ∈ c.waits, 1 ≤ x.seq ∧ x.seq ≤ 1048577 := fun x hx => by
  have h1 := h.each x hx
  have h2 := h.next
  omega

theorem GoodC.known {c : CustD} (h : GoodC c) : 0 ≤ knownC c ∧ knownC c ≤ c.next - 1 := by
  have h2 := h.next
  have h1 := h.each
  unfold knownC
  split
  · omega
  · rename_i x r e
    have := h1 x (by rw [e]; simp)
    omega

end Go.Proofs.Ytcjoekjjebcomak
