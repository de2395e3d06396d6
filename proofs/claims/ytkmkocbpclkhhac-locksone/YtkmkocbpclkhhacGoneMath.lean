/- What holds of each lock when a client is gone. -/
import Derived.Test.YtkmkocbpclkhhacKeepLocks
namespace Go.Proofs.Ytkmkocbpclkhhac
open Go.RowKit

theorem leave_facts {x : LockD} (h : LockOk x) {a : Int} (ha : 1 ≤ a) : (leaveX x a).holder ≠ a ∧ hasB a (leaveX x a).line = false ∧ (x.holder ≠ 0 → x.holder ≠ a → (leaveX x a).holder = x.holder) ∧ x.fence ≤ (leaveX x a).fence := by
  refine ⟨?_, ?_, ?_, (leaveX_name x a).2.1⟩
  · by_cases hw : x.holder = a
    · rw [leaveX_holder hw]
      obtain ⟨xn, xh, xf, xl⟩ := x
      simp only at hw
      cases xl with
      | nil => simp [giveUpX]; omega
      | cons b t =>
        have := (h.line.each b (by simp)).2.2
        simp only at this
        by_cases hm : xf = 1073741824
        · simp [giveUpX, hm]; omega
        · simp [giveUpX, hm]; omega
    · simp [leaveX, hw]
  · refine decide_eq_false fun hm => ?_
    by_cases hw : x.holder = a
    · rw [leaveX_holder hw] at hm
      obtain ⟨xn, xh, xf, xl⟩ := x
      simp only at hw
      cases xl with
      | nil => simp [giveUpX] at hm
      | cons b t =>
        by_cases hx : xf = 1073741824
        · simp [giveUpX, hx] at hm
        · have e : giveUpX ⟨xn, xh, xf, b :: t⟩ = ⟨xn, b, xf + 1, t⟩ := by simp [giveUpX, hx]
          rw [e] at hm
          exact (h.line.each a (by simp only at hm ⊢; simp [hm])).2.2 hw.symm
    · have e : leaveX x a = { x with line := x.line.filter (· != a) } := by simp [leaveX, hw]
      rw [e] at hm
      have := (List.mem_filter.1 hm).2
      simp at this
  · intro _ hw
    simp [leaveX, hw]
end Go.Proofs.Ytkmkocbpclkhhac
