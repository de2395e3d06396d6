/- Plain mathematics of commands: what is wrong with an operation, or a command, first. It imports no program (joined by program) -/
import Derived.Test.YtcjoekjjebcomakCR00
namespace Go.Proofs.Ytcjoekjjebcomak

open Go.RowKit

/-- What is wrong with an operation (0: nothing). -/
def opE (k : Int) (a b : ByteArray) (n : Int) : Int :=
  if ¬ (1 ≤ k ∧ k ≤ 6) then 3
  else if nameB a = false ∨ (k ≠ 5 ∧ b.size ≠ 0) then 4
  else if 12 < b.size then 1
  else if k = 5 then (if 1 ≤ n ∧ n ≤ 1073741824 then 0 else 2)
  else if n = 0 then 0 else 2

/-- What is wrong with a command (0: nothing). -/
def cmdE (k c s q u ok : Int) (a b : ByteArray) (n : Int) : Int :=
  if ¬ (1 ≤ k ∧ k ≤ 3) then 3
  else if ¬ (1 ≤ c ∧ c ≤ 9) then 2
  else if k = 2 then (if (1 ≤ s ∧ s ≤ 1073741824) ∧ (1 ≤ q ∧ q ≤ 1048576) ∧ (0 ≤ u ∧ u ≤ q - 1) then opE ok a b n else 2)
  else if s = 0 ∧ q = 0 ∧ u = 0 ∧ ok = 0 ∧ a.size = 0 ∧ b.size = 0 ∧ n = 0 then 0 else 4

theorem size_zero {s : ByteArray} (h : s.size = 0) : s = ⟨#[]⟩ := by
  apply ByteArray.ext
  have : s.data.size = 0 := h
  exact Array.eq_empty_of_size_eq_zero this

end Go.Proofs.Ytcjoekjjebcomak
