/- Plain mathematics of names: 1 to 6 letters from a to z. It imports no program; Lists of numbers that are only read: the document's has, slices.Index, slices.Contains, the law's sameInts (joined by program) -/
import Derived.WalkKit
import Derived.ProofKit
import Derived.Deep.QuietTactic
import Derived.BigQuiet
import Derived.Test.YtpcacaohknkdlagSE00
namespace Go.Proofs.Ytpcacaohknkdlag

open Go.RowKit

/-- Is a text a name? -/
def nameB (s : ByteArray) : Bool := decide (1 ≤ s.size ∧ s.size ≤ 6 ∧ ∀ k, (h : k < s.size) → 97 ≤ s[k].toNat ∧ s[k].toNat ≤ 122)

theorem nameB_yes {s : ByteArray} (h : nameB s = true) : 1 ≤ s.size ∧ s.size ≤ 6 ∧ ∀ k, (h : k < s.size) → 97 ≤ (s[k].toNat : Int) ∧ (s[k].toNat : Int) ≤ 122 := by
  unfold nameB at h
  have := of_decide_eq_true h
  refine ⟨this.1, this.2.1, fun k hk => ?_⟩
  have := this.2.2 k hk
  omega

theorem nameB_no {s : ByteArray} (h : nameB s = false) (h1 : 1 ≤ s.size) (h2 : s.size ≤ 6) : ∃ k, ∃ h : k < s.size, (s[k].toNat : Int) < 97 ∨ 122 < (s[k].toNat : Int) := by
  unfold nameB at h
  have := of_decide_eq_false h
  apply Classical.byContradiction
  intro hn
  refine this ⟨h1, h2, fun k hk => ?_⟩
  apply Classical.byContradiction
  intro hc
  exact hn ⟨k, hk, by omega⟩

end Go.Proofs.Ytpcacaohknkdlag

namespace Go.Proofs.Ytpcacaohknkdlag

open Go.RowKit

/-- Is a number in a list? -/
def hasB (x : Int) (xs : List Int) : Bool := decide (x ∈ xs)

theorem hasB_yes {x : Int} {xs : List Int} {j : Nat} (h : xs[j]? = some x) : hasB x xs = true := decide_eq_true (List.mem_of_getElem? h)

theorem hasB_no {x : Int} {xs : List Int} (h : ∀ j : Nat, j < xs.length → xs[j]? ≠ some x) : hasB x xs = false := by
  refine decide_eq_false fun hm => ?_
  obtain ⟨j, hj⟩ := List.mem_iff_getElem?.1 hm
  exact h j (List.getElem?_eq_some_iff.1 hj).1 hj

theorem hasB_first {x : Int} {xs : List Int} (h : hasB x xs = true) : ∃ i : Nat, xs[i]? = some x ∧ ∀ j : Nat, j < i → xs[j]? ≠ some x := by
  obtain ⟨j, hj⟩ := List.mem_iff_getElem?.1 (of_decide_eq_true h)
  induction j using Nat.strongRecOn with
  | ind j ih =>
    by_cases hm : ∃ i : Nat, i < j ∧ xs[i]? = some x
    · obtain ⟨i, hi, hx⟩ := hm
      exact ih i hi hx
    · exact ⟨j, hj, fun i hi hx => hm ⟨i, hi, hx⟩⟩

theorem hasB_none {x : Int} {xs : List Int} (h : hasB x xs = false) (j : Nat) : xs[j]? ≠ some x := fun hj => of_decide_eq_false h (List.mem_of_getElem? hj)

theorem ret_bool {a b : Bool} (h : a = b) : Ending.returned (.bool a) = .returned (.bool b) := by rw [h]

set_option maxHeartbeats 400000 in
theorem has_any (v : Value) (xs : List Int) (x : Int) (w : World) (B : Nat) (hv : IntsR w B v xs) :
    Calls Try.prog 76 #[v, .int .i64 x] w fun e w' => e = .returned (.bool (hasB x xs)) ∧ w' = w := by
  obtain ⟨ao, cap, rfl, h1, h2, h3, h4⟩ := hv
  go_enter Try.func76, Try.ntmps76
  go_wp2
  go_loop [5] (fun i => ∃ k : Nat, k ≤ xs.length ∧ i = .int .i64 k ∧ ∀ j, j < k → xs[j]? ≠ some x) (fun i => xs.length - (intOf i).toNat)
  case atStart => exact ⟨0, Nat.zero_le _, rfl, fun j h => by omega⟩
  case round =>
    obtain ⟨k, hk, rfl, hall⟩ := hrel
    have HA : Hid (∀ j, j < k → xs[j]? ≠ some x) := hall
    clear hall
    by_cases hlt : k < xs.length
    · obtain ⟨b, off, rfl, hb, hc⟩ := h4 (by omega)
      obtain ⟨y, hy⟩ : ∃ y, xs[k]? = some y := ⟨_, List.getElem?_eq_getElem hlt⟩
      have hcell := hc k y hy
      have HY : Hid (xs[k]? = some y) := hy
      clear hy hc h4
      by_cases hyx : y = x
      · subst hyx
        go_wp2
        go_ret
        exact ⟨ret_bool (hasB_yes HY.out).symm, rfl⟩
      · go_wp2
        go_round
        case rel =>
          refine ⟨k + 1, by omega, by go_num, fun j hj => ?_⟩
          by_cases hjk : j = k
          · subst hjk; rw [HY.out]; simpa using hyx
          · exact HA.out j (by omega)
        case measure => simp [intOf]; omega
    · go_wp2
      go_ret
      exact ⟨ret_bool (hasB_no fun j hj => HA.out j (by omega)).symm, rfl⟩

set_option maxHeartbeats 400000 in
theorem index_found (v : Value) (xs : List Int) (x : Int) (n : Nat) (w : World) (B : Nat) (hv : IntsR w B v xs) (hn : xs[n]? = some x) (hm : ∀ j, j < n → xs[j]? ≠ some x) :
    Calls Try.prog 94 #[v, .int .i64 x] w fun e w' => e = .returned (.int .i64 n) ∧ w' = w := by
  obtain ⟨ao, cap, rfl, h1, h2, h3, h4⟩ := hv
  have HN : Hid (xs[n]? = some x) := hn
  have HM : Hid (∀ j, j < n → xs[j]? ≠ some x) := hm
  have hnl : n < xs.length := (List.getElem?_eq_some_iff.1 hn).1
  clear hn hm
  go_enter Try.func94, Try.ntmps94
  go_wp2
  go_loop [8] (fun i => ∃ k : Nat, k ≤ n ∧ i = .int .i64 k) (fun i => xs.length - (intOf i).toNat)
  case atStart => exact ⟨0, Nat.zero_le _, rfl⟩
  case round =>
    obtain ⟨k, hk, rfl⟩ := hrel
    have hlt : k < xs.length := by omega
    obtain ⟨b, off, rfl, hb, hc⟩ := h4 (by omega)
    obtain ⟨y, hy⟩ : ∃ y, xs[k]? = some y := ⟨_, List.getElem?_eq_getElem hlt⟩
    have hcell := hc k y hy
    have HY : Hid (xs[k]? = some y) := hy
    clear hy hc h4
    by_cases hkn : k = n
    · subst hkn
      have hyx : x = y := by have := HY.out; rw [HN.out] at this; simpa using this
      clear HN HY
      subst hyx
      go_wp2
      go_ret
      exact ⟨rfl, rfl⟩
    · have hkn' : k < n := by omega
      have hyx : ¬ x = y := by rintro rfl; exact HM.out k hkn' HY.out
      clear hkn
      go_wp2
      go_round
      case rel => exact ⟨k + 1, by omega, by go_num⟩
      case measure => simp [intOf]; omega

set_option maxHeartbeats 400000 in
theorem index_none (v : Value) (xs : List Int) (x : Int) (w : World) (B : Nat) (hv : IntsR w B v xs) (hm : ∀ j : Nat, xs[j]? ≠ some x) :
    Calls Try.prog 94 #[v, .int .i64 x] w fun e w' => e = .returned (.int .i64 (-1)) ∧ w' = w := by
  obtain ⟨ao, cap, rfl, h1, h2, h3, h4⟩ := hv
  have HM : Hid (∀ j : Nat, xs[j]? ≠ some x) := hm
  clear hm
  go_enter Try.func94, Try.ntmps94
  go_wp2
  go_loop [8] (fun i => ∃ k : Nat, k ≤ xs.length ∧ i = .int .i64 k) (fun i => xs.length - (intOf i).toNat)
  case atStart => exact ⟨0, Nat.zero_le _, rfl⟩
  case round =>
    obtain ⟨k, hk, rfl⟩ := hrel
    by_cases hlt : k < xs.length
    · obtain ⟨b, off, rfl, hb, hc⟩ := h4 (by omega)
      obtain ⟨y, hy⟩ : ∃ y, xs[k]? = some y := ⟨_, List.getElem?_eq_getElem hlt⟩
      have hcell := hc k y hy
      have hyx : ¬ x = y := by rintro rfl; exact HM.out k hy
      clear hy hc h4
      go_wp2
      go_round
      case rel => exact ⟨k + 1, by omega, by go_num⟩
      case measure => simp [intOf]; omega
    · go_wp2
      go_ret
      exact ⟨rfl, rfl⟩

theorem contains_any (v : Value) (xs : List Int) (x : Int) (w : World) (B : Nat) (hv : IntsR w B v xs) :
    Calls Try.prog 91 #[v, .int .i64 x] w fun e w' => e = .returned (.bool (hasB x xs)) ∧ w' = w := by
  cases h : hasB x xs with
  | true =>
    obtain ⟨n, hn, hm⟩ := hasB_first h
    have hnl : n < xs.length := (List.getElem?_eq_some_iff.1 hn).1
    have hlen := hv.len
    have C := index_found v xs x n w B hv hn hm
    clear hv hn hm h
    go_enter Try.func91, Try.ntmps91
    go_wp2_with fail
    refine C.mono ?_
    rintro e w1 ⟨rfl, rfl⟩
    go_wp2
    go_ret
    exact ⟨rfl, rfl⟩
  | false =>
    have C := index_none v xs x w B hv (hasB_none h)
    clear hv h
    go_enter Try.func91, Try.ntmps91
    go_wp2_with fail
    refine C.mono ?_
    rintro e w1 ⟨rfl, rfl⟩
    go_wp2
    go_ret
    exact ⟨rfl, rfl⟩

end Go.Proofs.Ytpcacaohknkdlag
