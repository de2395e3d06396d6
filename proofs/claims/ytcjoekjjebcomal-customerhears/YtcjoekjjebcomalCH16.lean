/- Where the first element of a list is that is wanted. It names no program (joined by program) -/
import Derived.Test.YtcjoekjjebcomalCH03
namespace Go.Proofs.Ytcjoekjjebcomal

open Go.RowKit

/-- Where the first is that is wanted; -1: there is none. -/
def idxI {α : Type} (p : α → Bool) (ls : List α) : Int := if ls.findIdx p < ls.length then (ls.findIdx p : Int) else -1

theorem idxI_found {α : Type} {p : α → Bool} {ls : List α} {k : Nat} {x : α} (hx : ls[k]? = some x) (hp : p x = true) (hb : ∀ (j : Nat) (y : α), j < k → ls[j]? = some y → p y = false) : idxI p ls = k ∧ ls.findIdx p = k := by
  obtain ⟨hk, he⟩ := List.getElem?_eq_some_iff.1 hx
  have h : ls.findIdx p = k := by
    rw [List.findIdx_eq hk]
    refine ⟨by rw [he]; exact hp, fun j hj => ?_⟩
    have := hb j ls[j] hj (List.getElem?_eq_getElem (by omega))
    simpa using this
  exact ⟨by unfold idxI; rw [h, if_pos hk], h⟩

theorem idxI_none {α : Type} {p : α → Bool} {ls : List α} (hb : ∀ (j : Nat) (y : α), ls[j]? = some y → p y = false) : idxI p ls = -1 ∧ ls.findIdx p = ls.length := by
  have h : ls.findIdx p = ls.length := by
    rw [List.findIdx_eq_length]
    intro y hy
    obtain ⟨j, hj⟩ := List.mem_iff_getElem?.1 hy
    simpa using hb j y hj
  exact ⟨by unfold idxI; rw [h, if_neg (by omega)], h⟩

theorem sret_int {a b : Int} (h : a = b) : Ending.returned (.int .i64 a) = .returned (.int .i64 b) := by rw [h]

end Go.Proofs.Ytcjoekjjebcomal
