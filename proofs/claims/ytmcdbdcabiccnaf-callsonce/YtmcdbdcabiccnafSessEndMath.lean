/- Plain mathematics of the first session. -/
import Derived.Test.YtmcdbdcabiccnafSessJoinMath
namespace Go.Proofs.Ytmcdbdcabiccnaf
open Go.RowKit

theorem join_first {c : Int} (h1 : 1 ≤ c) (h2 : c ≤ 9) : joinE [] 0 c = 0 ∧ joinS [] 0 c = ([⟨c, 1, 0, 1, []⟩], ⟨0, 1, ⟨#[]⟩⟩) := by
  constructor
  · unfold joinE
    have e : checkS [] 0 = 0 := by unfold checkS; simp [checkFromS]
    rw [e, if_neg (by simp), if_pos ⟨⟨h1, h2⟩, by decide⟩]
  · rw [joinS_new (by rfl) (by simp)]
    simp [placeS]

theorem first_good {c k : Int} (h1 : 1 ≤ c) (h2 : c ≤ 9) (h3 : 1 ≤ k) (h4 : k ≤ 80) : checkS [⟨c, 1, 0, 1, []⟩] k = 0 := by
  refine checkS_of ⟨by omega, by omega, by simp, fun x hx => ?_, List.pairwise_singleton _ _⟩
  have : x = ⟨c, 1, 0, 1, []⟩ := by simpa using hx
  subst this
  exact ⟨by rw [rangeB_iff]; simp only; omega, rfl⟩

theorem first_fresh {c k : Int} (h : k < 41) : freshS [⟨c, 1, 0, 1, []⟩] k = [⟨c, 1, 0, 1, []⟩] := by
  unfold freshS
  have : freshP k ⟨c, 1, 0, 1, []⟩ = true := by simp [freshP]; omega
  simp [List.filter, this]

theorem first_gone {c k : Int} (h : ¬ k < 41) : freshS [⟨c, 1, 0, 1, []⟩] k = [] := by
  unfold freshS
  have : freshP k ⟨c, 1, 0, 1, []⟩ = false := by simp [freshP]; omega
  simp [List.filter, this]
end Go.Proofs.Ytmcdbdcabiccnaf
