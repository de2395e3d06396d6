/- Plain mathematics of Ready. (Written by gen_ready.py.) -/
import Derived.Test.YtmcdbdcabiccnafSessJoinMath
namespace Go.Proofs.Ytmcdbdcabiccnaf
open Go.RowKit

theorem readyE_check {ls : List SessD} {i q u : Int} (h : checkS ls i ≠ 0) : readyE ls i q u = checkS ls i := by unfold readyE; rw [if_pos h]
theorem readyE_range {ls : List SessD} {i q u : Int} (h : checkS ls i = 0) (h2 : ¬ (i ≠ 1073741824 ∧ (1 ≤ q ∧ q ≤ 1048576) ∧ 0 ≤ u ∧ u ≤ q - 1)) : readyE ls i q u = 2 := by unfold readyE; rw [if_neg (by simpa using h), if_neg h2]
theorem readyE_ok {ls : List SessD} {i q u : Int} (h : checkS ls i = 0) (h2 : i ≠ 1073741824 ∧ (1 ≤ q ∧ q ≤ 1048576) ∧ 0 ≤ u ∧ u ≤ q - 1) : readyE ls i q u = 0 := by unfold readyE; rw [if_neg (by simpa using h), if_pos h2]
theorem readyE_zero {ls : List SessD} {i q u : Int} (h : readyE ls i q u = 0) : checkS ls i = 0 ∧ i ≠ 1073741824 ∧ (1 ≤ q ∧ q ≤ 1048576) ∧ 0 ≤ u ∧ u ≤ q - 1 := by
  by_cases h1 : checkS ls i = 0
  · by_cases h2 : i ≠ 1073741824 ∧ (1 ≤ q ∧ q ≤ 1048576) ∧ 0 ≤ u ∧ u ≤ q - 1
    · exact ⟨h1, h2⟩
    · rw [readyE_range h1 h2] at h
      cases h
  · rw [readyE_check h1] at h
    exact absurd h h1

theorem readyS_away {ls : List SessD} {i c s q u : Int} (ht : thereS ls c = false) : readyS ls i c s q u = (ls, ⟨11, 0, ⟨#[]⟩⟩, false) := by unfold readyS; rw [ht]
theorem readyS_other {ls : List SessD} {i c s q u : Int} {x : SessD} (ht : thereS ls c = true) (hx : ls[placeS ls c]? = some x) (h : x.id ≠ s) : readyS ls i c s q u = (ls, ⟨11, 0, ⟨#[]⟩⟩, false) := by unfold readyS; rw [ht, hx]; simp [h]
theorem readyS_here {ls : List SessD} {i c s q u : Int} {x : SessD} (ht : thereS ls c = true) (hx : ls[placeS ls c]? = some x) (h : x.id = s) : readyS ls i c s q u = (ls.set (placeS ls c) (hearD x (i + 1) u), answerD (hearD x (i + 1) u) q) := by unfold readyS; rw [ht, hx]; simp [h]
end Go.Proofs.Ytmcdbdcabiccnaf
