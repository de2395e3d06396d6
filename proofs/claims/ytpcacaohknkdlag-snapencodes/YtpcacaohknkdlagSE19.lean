/- Sessions that may be, and what the calls keep of them; whose sessions there are. Plain lists; Plain mathematics of numbers as digits of seven bits. It imports no program (joined by program) -/
import Derived.WalkKit
import Derived.ProofKit
import Derived.Laws.BytesArg
import Derived.Test.YtpcacaohknkdlagSE02
namespace Go.Proofs.Ytpcacaohknkdlag

open Go.RowKit

/-- The client has a session. -/
def HasC (ls : List SessD) (c : Int) : Prop := ∃ x ∈ ls, x.client = c

theorem order_at {ls : List SessD} (h : ls.Pairwise (fun a b => a.client < b.client)) {i j : Nat} {x y : SessD} (hij : i < j) (hx : ls[i]? = some x) (hy : ls[j]? = some y) : x.client < y.client := by
  obtain ⟨hi, rfl⟩ := List.getElem?_eq_some_iff.1 hx
  obtain ⟨hj, rfl⟩ := List.getElem?_eq_some_iff.1 hy
  exact List.pairwise_iff_getElem.1 h i j hi hj hij

theorem GoodS.sub {ls xs : List SessD} {i : Int} (h : GoodS ls i) (hs : xs.Sublist ls) : GoodS xs i :=
  ⟨h.low, h.high, by have := h.len; have := hs.length_le; omega, fun x hx => h.fine x (hs.subset hx), h.order.sublist hs⟩

theorem GoodS.fresh {ls : List SessD} {i : Int} (h : GoodS ls i) (j : Int) : GoodS (freshS ls j) i := h.sub List.filter_sublist

theorem GoodS.leave {ls : List SessD} {i : Int} (h : GoodS ls i) (c : Int) : GoodS (leaveS ls c).1 i := by
  unfold leaveS
  split
  · exact h.sub (List.eraseIdx_sublist ..)
  · exact h

/-- One session put anew, of the same client. -/
theorem GoodS.put {ls : List SessD} {i : Int} (h : GoodS ls i) {p : Nat} {x y : SessD} (hx : ls[p]? = some x) (hc : y.client = x.client) (hy : Fine i y) : GoodS (ls.set p y) i := by
  refine ⟨h.low, h.high, by simpa using h.len, fun z hz => ?_, ?_⟩
  · rcases List.mem_or_eq_of_mem_set hz with hz | rfl
    · exact h.fine z hz
    · exact hy
  · have e : ∀ (j : Nat) (z : SessD), (ls.set p y)[j]? = some z → ∃ u : SessD, ls[j]? = some u ∧ u.client = z.client := by
      intro j z hz
      by_cases e : p = j
      · subst e
        rw [List.getElem?_set_self (List.getElem?_eq_some_iff.1 hx).1] at hz
        cases hz
        exact ⟨x, hx, hc.symm⟩
      · rw [List.getElem?_set_ne e] at hz
        exact ⟨z, hz, rfl⟩
    refine List.pairwise_iff_getElem.2 fun a b ha hb hab => ?_
    obtain ⟨u, hu, eu⟩ := e a _ (List.getElem?_eq_getElem ha)
    obtain ⟨v, hv, ev⟩ := e b _ (List.getElem?_eq_getElem hb)
    rw [← eu, ← ev]
    exact order_at h.order hab hu hv

end Go.Proofs.Ytpcacaohknkdlag

namespace Go.Proofs.Ytpcacaohknkdlag

open Go.RowKit

/-- Digits of seven bits, the lowest first, 128 more on all but the last; at most f + 1 of them. -/
def enc : Nat → Int → List Int
  | 0, m => [m]
  | f + 1, m => if m < 128 then [m] else (m % 128 + 128) :: enc f (m / 128)

/-- The bytes of a number (up to 2^42). -/
def encN (n : Int) : List Int := enc 5 n

theorem enc_small (f : Nat) (m : Int) (h : m < 128) : enc f m = [m] := by
  cases f <;> simp [enc, h]

theorem enc_step (f : Nat) (m : Int) (h : ¬ m < 128) : enc (f + 1) m = (m % 128 + 128) :: enc f (m / 128) := by
  simp [enc, h]

theorem enc_length (f : Nat) : ∀ m, 1 ≤ (enc f m).length ∧ (enc f m).length ≤ f + 1 := by
  induction f with
  | zero => intro m; simp [enc]
  | succ f ih =>
    intro m
    by_cases h : m < 128
    · simp [enc, h]
    · have := ih (m / 128); simp [enc, h]; omega

theorem encN_length (n : Int) : 1 ≤ (encN n).length ∧ (encN n).length ≤ 6 := enc_length 5 n

theorem strOfNums_append (a b : List Int) : strOfNums a ++ strOfNums b = strOfNums (a ++ b) := by
  apply ByteArray.ext
  simp [strOfNums]

/-- How far a number reaches with f more digits. -/
def reach : Nat → Int
  | 0 => 128
  | f + 1 => 128 * reach f

theorem reach_div (f : Nat) (m : Int) (h0 : 0 ≤ m) (h : m < reach (f + 1)) : 0 ≤ m / 128 ∧ m / 128 < reach f := by
  simp only [reach] at h
  omega

end Go.Proofs.Ytpcacaohknkdlag
