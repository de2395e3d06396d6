/- Lists of numbers that are only read: the document's has, slices.Index, slices.Contains, the law's sameInts. -/
import Derived.Test.YtkjahjknmfjmkagLockMem
import Derived.Deep.QuietTactic
import Derived.BigQuiet
namespace Go.Proofs.Ytkjahjknmfjmkag
open Go.RowKit

/-- Is a number in a list? -/
def hasB (x : Int) (xs : List Int) : Bool := decide (x ∈ xs)

theorem hasB_yes {x : Int} {xs : List Int} {j : Nat} (h : xs[j]? = some x) : hasB x xs = true := decide_eq_true (List.mem_of_getElem? h)
theorem hasB_no {x : Int} {xs : List Int} (h : ∀ j : Nat, j < xs.length → xs[j]? ≠ some x) : hasB x xs = false := by
  refine decide_eq_false fun hm => ?_
  obtain ⟨j, hj⟩ := List.mem_iff_getElem?.1 hm
  exact h j (List.getElem?_eq_some_iff.1 hj).1 hj
theorem hasB_first {x : Int} {xs : List Int} (h : hasB x xs = true) : ∃ i : Nat, xs[i]? = some x ∧ ∀ j : Nat, j < i → xs[j]? ≠ some x := by
  obtain ⟨j, hj⟩ := List.mem_iff_getElem?.1 (of_decide_eq_true h)
  induction j using Nat.strongRecOn with
  | ind j ih =>
    by_cases hm : ∃ i : Nat, i < j ∧ xs[i]? = some x
    · obtain ⟨i, hi, hx⟩ := hm
      exact ih i hi hx
    · exact ⟨j, hj, fun i hi hx => hm ⟨i, hi, hx⟩⟩
theorem hasB_none {x : Int} {xs : List Int} (h : hasB x xs = false) (j : Nat) : xs[j]? ≠ some x := fun hj => of_decide_eq_false h (List.mem_of_getElem? hj)

theorem ret_bool {a b : Bool} (h : a = b) : Ending.returned (.bool a) = .returned (.bool b) := by rw [h]

set_option maxHeartbeats 400000 in
theorem sameInts_eq (v u : Value) (xs : List Int) (w : World) (B B' : Nat) (hv : IntsR w B v xs) (hu : IntsR w B' u xs) :
    Calls Try.prog 15 #[v, u] w fun e w' => e = .returned (.bool true) ∧ ∃ n, w' = w.drewN n := by
  obtain ⟨ao, cap, rfl, h1, h2, h3, h4⟩ := hv
  obtain ⟨au, cau, rfl, g1, g2, g3, g4⟩ := hu
  go_enter Try.func15, Try.ntmps15
  go_wp2
  go_loopw [5] (fun i wr => ∃ k n : Nat, k ≤ xs.length ∧ i = .int .i64 k ∧ wr = w.drewN n) (fun i _ => xs.length - (intOf i).toNat)
  case atStart => exact ⟨0, 0, Nat.zero_le _, rfl, rfl⟩
  case round =>
    obtain ⟨k, n, hk, rfl, rfl⟩ := hrel
    by_cases hlt : k < xs.length
    · obtain ⟨b, off, rfl, hb, hc⟩ := h4 (by omega)
      obtain ⟨b', off', rfl, hb', hc'⟩ := g4 (by omega)
      obtain ⟨y, hy⟩ : ∃ y, xs[k]? = some y := ⟨_, List.getElem?_eq_getElem hlt⟩
      have hcell := hc k y hy
      have hcell' := hc' k y hy
      clear hy hc h4 hc' g4
      go_wp2
      go_quiet (fail)
      go_wp2
      go_roundw
      case rel => exact ⟨k + 1, _, by omega, by go_num, rfl⟩
      case measure => simp [intOf]; omega
    · go_wp2
      go_ret
      exact ⟨rfl, n, rfl⟩
end Go.Proofs.Ytkjahjknmfjmkag
