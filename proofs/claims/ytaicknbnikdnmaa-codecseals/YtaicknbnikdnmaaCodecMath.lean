/- Plain mathematics of package codec: digits of seven bits and the two sums of a seal. It imports no program. -/
import Derived.WalkKit
import Derived.ProofKit
import Derived.Laws.BytesArg
namespace Go.Proofs.Ytaicknbnikdnmaa
open Go.RowKit

/-- The two sums of a seal over a list of bytes. -/
def sealGo (l : List UInt8) : Int × Int :=
  l.foldl (fun p c => ((p.1 + c.toNat) % 65521, (p.2 + (p.1 + c.toNat) % 65521) % 65521)) (1, 0)

theorem sealGo_snoc (l : List UInt8) (c : UInt8) :
    sealGo (l ++ [c]) = (((sealGo l).1 + c.toNat) % 65521, ((sealGo l).2 + ((sealGo l).1 + c.toNat) % 65521) % 65521) := by
  simp [sealGo]

theorem sealFold_bd (l : List UInt8) : ∀ p : Int × Int, (0 ≤ p.1 ∧ p.1 < 65521 ∧ 0 ≤ p.2 ∧ p.2 < 65521) →
    let q := l.foldl (fun p c => ((p.1 + (c.toNat : Int)) % 65521, (p.2 + (p.1 + (c.toNat : Int)) % 65521) % 65521)) p
    0 ≤ q.1 ∧ q.1 < 65521 ∧ 0 ≤ q.2 ∧ q.2 < 65521 := by
  induction l with
  | nil => intro p h; exact h
  | cons c l ih => intro p h; simp only [List.foldl_cons]; exact ih _ (by simp; omega)

theorem sealGo_bd (l : List UInt8) : 0 ≤ (sealGo l).1 ∧ (sealGo l).1 < 65521 ∧ 0 ≤ (sealGo l).2 ∧ (sealGo l).2 < 65521 :=
  sealFold_bd l (1, 0) (by simp)

theorem take_snoc (s : ByteArray) (k : Nat) (h : k < s.size) : s.data.toList.take (k + 1) = s.data.toList.take k ++ [s[k]] := by
  rw [List.take_succ_eq_append_getElem (by simpa using h)]; rfl

theorem take_all (s : ByteArray) (k : Nat) (h : s.size ≤ k) : s.data.toList.take k = s.data.toList :=
  List.take_of_length_le (by simpa using h)

end Go.Proofs.Ytaicknbnikdnmaa
