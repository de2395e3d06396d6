/- Plain mathematics of locks: when may they be; what is wrong first; The document's In: is a number from low to high? (joined by program) -/
import Derived.Test.YtpcacaohknkdlagRows
import Derived.WalkKit
import Derived.ProofKit
import Derived.WalkLawsBesides
import Derived.Test.YtpcacaohknkdlagSE05
namespace Go.Proofs.Ytpcacaohknkdlag

open Go.RowKit

/-- Is the number at place i of a line one that may not stand there? -/
def badB (xs : List Int) (h : Int) (i : Nat) : Bool :=
  match xs[i]? with
  | none => false
  | some x => !decide (1 ≤ x ∧ x ≤ 9) || decide (x = h) || hasB x (xs.take i)

/-- May the line be that of a lock with this holder? -/
def lineB (xs : List Int) (h : Int) : Bool := decide (xs.length ≤ 3 ∧ ¬ (h = 0 ∧ 0 < xs.length)) && (List.range xs.length).all fun i => !badB xs h i

/-- May the name, the holder and the line be those of a lock? -/
def formB (x : LockD) : Bool := nameB x.name && decide (0 ≤ x.holder ∧ x.holder ≤ 9) && lineB x.line x.holder

/-- Is a text at most another one? -/
def leN (a b : ByteArray) : Bool := Op.bytesLess a.toList b.toList || a.toList == b.toList

/-- Locks one by one, the name of the one ahead given. -/
def checkFrom : ByteArray → List LockD → Int
  | _, [] => 0
  | p, x :: t => if formB x = false then 4 else if x.fence < 1 ∨ 1073741824 < x.fence then 2 else if leN x.name p = true then 14 else checkFrom x.name t

/-- What is wrong with locks; 0: nothing. -/
def checkL (ls : List LockD) : Int := if 5 < ls.length then 1 else checkFrom ⟨#[]⟩ ls

theorem lineB_yes {xs : List Int} {h : Int} (hl : lineB xs h = true) : xs.length ≤ 3 ∧ ¬ (h = 0 ∧ 0 < xs.length) ∧ ∀ i x, xs[i]? = some x → 1 ≤ x ∧ x ≤ 9 ∧ x ≠ h ∧ hasB x (xs.take i) = false := by
  unfold lineB at hl
  rw [Bool.and_eq_true] at hl
  obtain ⟨h1, h2⟩ := hl
  have h1 := of_decide_eq_true h1
  refine ⟨h1.1, h1.2, fun i x hx => ?_⟩
  have hi : i < xs.length := (List.getElem?_eq_some_iff.1 hx).1
  have := List.all_eq_true.1 h2 i (List.mem_range.2 hi)
  simp only [badB, hx, Bool.not_eq_true', Bool.or_eq_false_iff, Bool.not_eq_false'] at this
  have h3 := of_decide_eq_true this.1.1
  exact ⟨h3.1, h3.2, of_decide_eq_false this.1.2, this.2⟩

theorem lineB_no {xs : List Int} {h : Int} (hl : lineB xs h = false) (h1 : xs.length ≤ 3) (h2 : ¬ (h = 0 ∧ 0 < xs.length)) :
    ∃ i x, xs[i]? = some x ∧ (x < 1 ∨ 9 < x ∨ x = h ∨ hasB x (xs.take i) = true) := by
  unfold lineB at hl
  rw [decide_eq_true (p := xs.length ≤ 3 ∧ ¬ (h = 0 ∧ 0 < xs.length)) ⟨h1, h2⟩, Bool.true_and] at hl
  obtain ⟨i, hi, hb⟩ := List.all_eq_false.1 hl
  have hi' := List.mem_range.1 hi
  refine ⟨i, xs[i], List.getElem?_eq_getElem hi', ?_⟩
  simp only [badB, List.getElem?_eq_getElem hi', Bool.not_eq_true', Bool.or_eq_false_iff, not_and] at hb
  cases hh : hasB xs[i] (xs.take i) with
  | true => exact Or.inr (Or.inr (Or.inr rfl))
  | false =>
    rw [hh] at hb
    simp at hb
    omega

/-- The first places of what a value reads as. -/
theorem ints_take {w : World} {B b off k cap : Nat} {xs : List Int} (hk : k ≤ xs.length) (h1 : xs.length ≤ cap) (h2 : xs.length * 8 ≤ 140737488351232) (hb : b < B)
    (hc : ∀ i x, xs[i]? = some x → w.cell? ⟨b, off + i, none⟩ = some (.int .i64 x)) : IntsR w B (.slice (some ⟨b, off, none⟩) k cap) (xs.take k) := by
  refine ⟨some ⟨b, off, none⟩, cap, by rw [List.length_take, Nat.min_eq_left hk], by rw [List.length_take]; omega, by rw [List.length_take]; omega, (by intro h; cases h), fun _ => ⟨b, off, rfl, hb, fun i x hx => hc i x ?_⟩⟩
  rw [List.getElem?_take] at hx
  split at hx
  · exact hx
  · cases hx

end Go.Proofs.Ytpcacaohknkdlag

namespace Go.Proofs.Ytpcacaohknkdlag

open Go.RowKit

theorem in_yes (n a b : Int) (w : World) (h : a ≤ n) (h' : n ≤ b) :
    Calls Try.prog 73 #[.int .i64 n, .int .i64 a, .int .i64 b] w fun e w' => e = .returned (.bool true) ∧ w' = w := by
  go_enter Try.func73, Try.ntmps73
  go_wp2
  go_ret
  exact ⟨rfl, rfl⟩

theorem in_low (n a b : Int) (w : World) (h : n < a) :
    Calls Try.prog 73 #[.int .i64 n, .int .i64 a, .int .i64 b] w fun e w' => e = .returned (.bool false) ∧ w' = w := by
  have h1 : ¬ a ≤ n := by omega
  go_enter Try.func73, Try.ntmps73
  go_wp2
  go_ret
  exact ⟨rfl, rfl⟩

theorem in_high (n a b : Int) (w : World) (h : b < n) :
    Calls Try.prog 73 #[.int .i64 n, .int .i64 a, .int .i64 b] w fun e w' => e = .returned (.bool false) ∧ w' = w := by
  by_cases ha : n < a
  · exact in_low n a b w ha
  · have h1 : a ≤ n := by omega
    have h2 : ¬ n ≤ b := by omega
    go_enter Try.func73, Try.ntmps73
    go_wp2
    go_ret
    exact ⟨rfl, rfl⟩

end Go.Proofs.Ytpcacaohknkdlag
