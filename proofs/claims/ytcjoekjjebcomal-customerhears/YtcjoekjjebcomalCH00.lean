/- Plain mathematics of names: 1 to 6 letters from a to z. It imports no program (joined by program) -/
import Derived.WalkKit
import Derived.ProofKit
namespace Go.Proofs.Ytcjoekjjebcomal

open Go.RowKit

/-- Is a text a name? -/
def nameB (s : ByteArray) : Bool := decide (1 ≤ s.size ∧ s.size ≤ 6 ∧ ∀ k, (h : k < s.size) → 97 ≤ s[k].toNat ∧ s[k].toNat ≤ 122)

theorem nameB_yes {s : ByteArray} (h : nameB s = true) : 1 ≤ s.size ∧ s.size ≤ 6 ∧ ∀ k, (h : k < s.size) → 97 ≤ (s[k].toNat : Int) ∧ (s[k].toNat : Int) ≤ 122 := by
  unfold nameB at h
  have := of_decide_eq_true h
  refine ⟨this.1, this.2.1, fun k hk => ?_⟩
  have := this.2.2 k hk
  omega

theorem nameB_no {s : ByteArray} (h : nameB s = false) (h1 : 1 ≤ s.size) (h2 : s.size ≤ 6) : ∃ k, ∃ h : k < s.size, (s[k].toNat : Int) < 97 ∨ 122 < (s[k].toNat : Int) := by
  unfold nameB at h
  have := of_decide_eq_false h
  apply Classical.byContradiction
  intro hn
  refine this ⟨h1, h2, fun k hk => ?_⟩
  apply Classical.byContradiction
  intro hc
  exact hn ⟨k, hk, by omega⟩

end Go.Proofs.Ytcjoekjjebcomal
