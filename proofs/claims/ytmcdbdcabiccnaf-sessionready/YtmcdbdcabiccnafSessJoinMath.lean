/- Plain mathematics of Join. -/
import Derived.Test.YtmcdbdcabiccnafSessMem
namespace Go.Proofs.Ytmcdbdcabiccnaf
open Go.RowKit

theorem joinE_check {ls : List SessD} {i c : Int} (h : checkS ls i ≠ 0) : joinE ls i c = checkS ls i := by unfold joinE; rw [if_pos h]
theorem joinE_range {ls : List SessD} {i c : Int} (h : checkS ls i = 0) (h2 : ¬ ((1 ≤ c ∧ c ≤ 9) ∧ i ≠ 1073741824)) : joinE ls i c = 2 := by unfold joinE; rw [if_neg (by simpa using h), if_neg h2]
theorem joinE_zero {ls : List SessD} {i c : Int} (h : joinE ls i c = 0) : checkS ls i = 0 ∧ (1 ≤ c ∧ c ≤ 9) ∧ i ≠ 1073741824 := by
  unfold joinE at h
  by_cases h1 : checkS ls i = 0
  · by_cases h2 : (1 ≤ c ∧ c ≤ 9) ∧ i ≠ 1073741824
    · exact ⟨h1, h2⟩
    · rw [if_neg (by simpa using h1), if_neg h2] at h
      cases h
  · rw [if_pos h1] at h
    exact absurd h h1

theorem joinS_there {ls : List SessD} {i c : Int} {x : SessD} (ht : thereS ls c = true) (hx : ls[placeS ls c]? = some x) : joinS ls i c = (ls.set (placeS ls c) { x with last := i + 1 }, ⟨7, x.id, ⟨#[]⟩⟩) := by
  unfold joinS; rw [ht, hx]
theorem joinS_full {ls : List SessD} {i c : Int} (ht : thereS ls c = false) (h : ls.length = 4) : joinS ls i c = (ls, ⟨8, 0, ⟨#[]⟩⟩) := by
  unfold joinS; rw [ht]; simp [h]
theorem joinS_new {ls : List SessD} {i c : Int} (ht : thereS ls c = false) (h : ls.length ≠ 4) : joinS ls i c = (ls.take (placeS ls c) ++ ⟨c, i + 1, 0, i + 1, []⟩ :: ls.drop (placeS ls c), ⟨0, i + 1, ⟨#[]⟩⟩) := by
  unfold joinS; rw [ht]; simp [h]
theorem thereS_some {ls : List SessD} {c : Int} (ht : thereS ls c = true) : ∃ x, ls[placeS ls c]? = some x ∧ x.client = c := by
  unfold thereS at ht
  cases h : ls[placeS ls c]? with
  | none => rw [h] at ht; cases ht
  | some x => rw [h] at ht; exact ⟨x, rfl, by simpa using ht⟩
theorem map_at {ls : List SessD} {rs : List (SessD × Value)} {n : Nat} {x : SessD} (hrs : rs.map (·.1) = ls) (hx : ls[n]? = some x) : ∃ v, rs[n]? = some (x, v) := by
  rw [← hrs, List.getElem?_map] at hx
  obtain ⟨r, hr, rfl⟩ := Option.map_eq_some_iff.1 hx
  exact ⟨r.2, hr⟩

end Go.Proofs.Ytmcdbdcabiccnaf
