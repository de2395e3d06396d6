/- Plain mathematics of names: 1 to 6 letters from a to z. It imports no program; Plain mathematics of commands: what is wrong with an operation, or a command, first. It imports no program (joined by program) -/
import Derived.WalkKit
import Derived.ProofKit
namespace Go.Proofs.YtcjoekjjebcomalDoor

open Go.RowKit

/-- Is a text a name? -/
def nameB (s : ByteArray) : Bool := decide (1 ≤ s.size ∧ s.size ≤ 6 ∧ ∀ k, (h : k < s.size) → 97 ≤ s[k].toNat ∧ s[k].toNat ≤ 122)

theorem nameB_yes {s : ByteArray} (h : nameB s = true) : 1 ≤ s.size ∧ s.size ≤ 6 ∧ ∀ k, (h : k < s.size) → 97 ≤ (s[k].toNat : Int) ∧ (s[k].toNat : Int) ≤ 122 := by
  unfold nameB at h
  have := of_decide_eq_true h
  refine ⟨this.1, this.2.1, fun k hk => ?_⟩
  have := this.2.2 k hk
  omega

theorem nameB_no {s : ByteArray} (h : nameB s = false) (h1 : 1 ≤ s.size) (h2 : s.size ≤ 6) : ∃ k, ∃ h : k < s.size, (s[k].toNat : Int) < 97 ∨ 122 < (s[k].toNat : Int) := by
  unfold nameB at h
  have := of_decide_eq_false h
  apply Classical.byContradiction
  intro hn
  refine this ⟨h1, h2, fun k hk => ?_⟩
  apply Classical.byContradiction
  intro hc
  exact hn ⟨k, hk, by omega⟩

end Go.Proofs.YtcjoekjjebcomalDoor

namespace Go.Proofs.YtcjoekjjebcomalDoor

open Go.RowKit

/-- What is wrong with an operation (0: nothing). -/
def opE (k : Int) (a b : ByteArray) (n : Int) : Int :=
  if ¬ (1 ≤ k ∧ k ≤ 6) then 3
  else if nameB a = false ∨ (k ≠ 5 ∧ b.size ≠ 0) then 4
  else if 12 < b.size then 1
  else if k = 5 then (if 1 ≤ n ∧ n ≤ 1073741824 then 0 else 2)
  else if n = 0 then 0 else 2

/-- What is wrong with a command (0: nothing). -/
def cmdE (k c s q u ok : Int) (a b : ByteArray) (n : Int) : Int :=
  if ¬ (1 ≤ k ∧ k ≤ 3) then 3
  else if ¬ (1 ≤ c ∧ c ≤ 9) then 2
  else if k = 2 then (if (1 ≤ s ∧ s ≤ 1073741824) ∧ (1 ≤ q ∧ q ≤ 1048576) ∧ (0 ≤ u ∧ u ≤ q - 1) then opE ok a b n else 2)
  else if s = 0 ∧ q = 0 ∧ u = 0 ∧ ok = 0 ∧ a.size = 0 ∧ b.size = 0 ∧ n = 0 then 0 else 4

theorem size_zero {s : ByteArray} (h : s.size = 0) : s = ⟨#[]⟩ := by
  apply ByteArray.ext
  have : s.data.size = 0 := h
  exact Array.eq_empty_of_size_eq_zero this

end Go.Proofs.YtcjoekjjebcomalDoor
