/- The bytes of a command. It imports no program of its own; Plain mathematics of package codec: digits of seven bits and the two sums of a seal. It imports no program (joined by program) -/
import Derived.WalkKit
import Derived.ProofKit
import Derived.Laws.BytesArg
import Derived.Test.YtpcacaohknkdlagSE21
import Derived.Test.YtpcacaohknkdlagSE20
namespace Go.Proofs.Ytpcacaohknkdlag

open Go.RowKit

/-- A number's bytes. -/
def numOut (n : Int) : ByteArray := strOfNums (encN n)

theorem bytes_ext {a b : ByteArray} (h : a.data.toList = b.data.toList) : a = b := ByteArray.ext (Array.toList_inj.1 h)

theorem nsize (n : Int) : (numOut n).size = (encN n).length := strOfNums_size _

theorem textOut_le (s : ByteArray) (n : Nat) (h : s.size ≤ n) : (textOut s).size ≤ n + 6 := by
  have := textOut_size s
  omega

theorem numOut_le (n : Int) : (numOut n).size ≤ 6 := by rw [nsize]; exact (encN_length n).2

end Go.Proofs.Ytpcacaohknkdlag

namespace Go.Proofs.Ytpcacaohknkdlag

open Go.RowKit

/-- The two sums of a seal over a list of bytes. -/
def sealGo (l : List UInt8) : Int × Int :=
  l.foldl (fun p c => ((p.1 + c.toNat) % 65521, (p.2 + (p.1 + c.toNat) % 65521) % 65521)) (1, 0)

theorem sealGo_snoc (l : List UInt8) (c : UInt8) :
    sealGo (l ++ [c]) = (((sealGo l).1 + c.toNat) % 65521, ((sealGo l).2 + ((sealGo l).1 + c.toNat) % 65521) % 65521) := by
  simp [sealGo]

theorem sealFold_bd (l : List UInt8) : ∀ p : Int × Int, (0 ≤ p.1 ∧ p.1 < 65521 ∧ 0 ≤ p.2 ∧ p.2 < 65521) →
    let q := l.foldl (fun p c => ((p.1 + (c.toNat : Int)) % 65521, (p.2 + (p.1 + (c.toNat : Int)) % 65521) % 65521)) p
    0 ≤ q.1 ∧ q.1 < 65521 ∧ 0 ≤ q.2 ∧ q.2 < 65521 := by
  induction l with
  | nil => intro p h; exact h
  | cons c l ih => intro p h; simp only [List.foldl_cons]; exact ih _ (by simp; omega)

theorem sealGo_bd (l : List UInt8) : 0 ≤ (sealGo l).1 ∧ (sealGo l).1 < 65521 ∧ 0 ≤ (sealGo l).2 ∧ (sealGo l).2 < 65521 :=
  sealFold_bd l (1, 0) (by simp)

theorem take_snoc (s : ByteArray) (k : Nat) (h : k < s.size) : s.data.toList.take (k + 1) = s.data.toList.take k ++ [s[k]] := by
  rw [List.take_succ_eq_append_getElem (by simpa using h)]; rfl

theorem take_all (s : ByteArray) (k : Nat) (h : s.size ≤ k) : s.data.toList.take k = s.data.toList :=
  List.take_of_length_le (by simpa using h)

end Go.Proofs.Ytpcacaohknkdlag
