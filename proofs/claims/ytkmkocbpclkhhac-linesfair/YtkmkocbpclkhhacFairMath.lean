/- The course of LinesFair, in plain lists. -/
import Derived.Test.YtkmkocbpclkhhacLockWho
import Derived.Test.YtkmkocbpclkhhacLockFree
import Derived.Test.YtkmkocbpclkhhacKeepName
namespace Go.Proofs.Ytkmkocbpclkhhac
open Go.RowKit

/-- The order of the line, and behind it nobody. -/
def ordZ (c : Int) : List Int := [c, 1 + c % 3, 1 + (1 + c % 3) % 3]

/-- The locks when k of the line have asked. -/
def waitL (nm : ByteArray) (c : Int) (k : Nat) : List LockD := [⟨nm, 9, 1, (ordZ c).take k⟩]

/-- The lock when k have given it up. -/
def passL (nm : ByteArray) (c : Int) : Nat → List LockD
  | 0 => [⟨nm, 9, 1, ordZ c⟩]
  | 1 => [⟨nm, c, 2, [1 + c % 3, 1 + (1 + c % 3) % 3]⟩]
  | 2 => [⟨nm, 1 + c % 3, 3, [1 + (1 + c % 3) % 3]⟩]
  | 3 => [⟨nm, 1 + (1 + c % 3) % 3, 4, []⟩]
  | _ => [⟨nm, 0, 4, []⟩]

/-- Who has the lock when k have given it up. -/
def headZ (c : Int) : Nat → Int
  | 0 => 9
  | 1 => c
  | 2 => 1 + c % 3
  | 3 => 1 + (1 + c % 3) % 3
  | _ => 0

/-- Its fence, where somebody has it. -/
def fenceZ : Nat → Int
  | 4 => 0
  | k => k + 1

theorem fair_names {P : ByteArray → Int → Prop} (n c : Int) (hc : c = 1 ∨ c = 2 ∨ c = 3)
    (h : P ⟨#[97]⟩ 1 ∧ P ⟨#[97]⟩ 2 ∧ P ⟨#[97]⟩ 3 ∧ P ⟨#[98]⟩ 1 ∧ P ⟨#[98]⟩ 2 ∧ P ⟨#[98]⟩ 3 ∧ P ⟨#[107, 101, 121]⟩ 1 ∧ P ⟨#[107, 101, 121]⟩ 2 ∧ P ⟨#[107, 101, 121]⟩ 3) : P (nameK n) c := by
  obtain ⟨a1, a2, a3, b1, b2, b3, c1, c2, c3⟩ := h
  rcases nameK_of n with e | e | e <;> rw [e] <;> rcases hc with rfl | rfl | rfl <;> assumption

theorem fair_first (n c : Int) (hc : c = 1 ∨ c = 2 ∨ c = 3) : refuseL [] (nameK n) 9 = 0 ∧ takeL [] (nameK n) 9 true = (waitL (nameK n) c 0, 0, 1) :=
  fair_names (P := fun nm c => refuseL [] nm 9 = 0 ∧ takeL [] nm 9 true = (waitL nm c 0, 0, 1)) n c hc (by refine ⟨⟨?_, ?_⟩, ⟨?_, ?_⟩, ⟨?_, ?_⟩, ⟨?_, ?_⟩, ⟨?_, ?_⟩, ⟨?_, ?_⟩, ⟨?_, ?_⟩, ⟨?_, ?_⟩, ⟨?_, ?_⟩⟩ <;> kernel_rfl)

theorem fair_full (n c : Int) (hc : c = 1 ∨ c = 2 ∨ c = 3) : refuseL (waitL (nameK n) c 3) (nameK n) 8 = 0 ∧ takeL (waitL (nameK n) c 3) (nameK n) 8 true = (waitL (nameK n) c 3, 8, 0) :=
  fair_names (P := fun nm c => refuseL (waitL nm c 3) nm 8 = 0 ∧ takeL (waitL nm c 3) nm 8 true = (waitL nm c 3, 8, 0)) n c hc (by refine ⟨⟨?_, ?_⟩, ⟨?_, ?_⟩, ⟨?_, ?_⟩, ⟨?_, ?_⟩, ⟨?_, ?_⟩, ⟨?_, ?_⟩, ⟨?_, ?_⟩, ⟨?_, ?_⟩, ⟨?_, ?_⟩⟩ <;> kernel_rfl)

theorem fair_wait0 (n c : Int) (hc : c = 1 ∨ c = 2 ∨ c = 3) : refuseL (waitL (nameK n) c 0) (nameK n) c = 0 ∧ takeL (waitL (nameK n) c 0) (nameK n) c true = (waitL (nameK n) c 1, 10, 9) :=
  fair_names (P := fun nm c => refuseL (waitL nm c 0) nm c = 0 ∧ takeL (waitL nm c 0) nm c true = (waitL nm c 1, 10, 9)) n c hc (by refine ⟨⟨?_, ?_⟩, ⟨?_, ?_⟩, ⟨?_, ?_⟩, ⟨?_, ?_⟩, ⟨?_, ?_⟩, ⟨?_, ?_⟩, ⟨?_, ?_⟩, ⟨?_, ?_⟩, ⟨?_, ?_⟩⟩ <;> kernel_rfl)
theorem fair_wait1 (n c : Int) (hc : c = 1 ∨ c = 2 ∨ c = 3) : refuseL (waitL (nameK n) c 1) (nameK n) (1 + c % 3) = 0 ∧ takeL (waitL (nameK n) c 1) (nameK n) (1 + c % 3) true = (waitL (nameK n) c 2, 10, 9) :=
  fair_names (P := fun nm c => refuseL (waitL nm c 1) nm (1 + c % 3) = 0 ∧ takeL (waitL nm c 1) nm (1 + c % 3) true = (waitL nm c 2, 10, 9)) n c hc (by refine ⟨⟨?_, ?_⟩, ⟨?_, ?_⟩, ⟨?_, ?_⟩, ⟨?_, ?_⟩, ⟨?_, ?_⟩, ⟨?_, ?_⟩, ⟨?_, ?_⟩, ⟨?_, ?_⟩, ⟨?_, ?_⟩⟩ <;> kernel_rfl)
theorem fair_wait2 (n c : Int) (hc : c = 1 ∨ c = 2 ∨ c = 3) : refuseL (waitL (nameK n) c 2) (nameK n) (1 + (1 + c % 3) % 3) = 0 ∧ takeL (waitL (nameK n) c 2) (nameK n) (1 + (1 + c % 3) % 3) true = (waitL (nameK n) c 3, 10, 9) :=
  fair_names (P := fun nm c => refuseL (waitL nm c 2) nm (1 + (1 + c % 3) % 3) = 0 ∧ takeL (waitL nm c 2) nm (1 + (1 + c % 3) % 3) true = (waitL nm c 3, 10, 9)) n c hc (by refine ⟨⟨?_, ?_⟩, ⟨?_, ?_⟩, ⟨?_, ?_⟩, ⟨?_, ?_⟩, ⟨?_, ?_⟩, ⟨?_, ?_⟩, ⟨?_, ?_⟩, ⟨?_, ?_⟩, ⟨?_, ?_⟩⟩ <;> kernel_rfl)

theorem fair_wait (n c : Int) (hc : c = 1 ∨ c = 2 ∨ c = 3) (k : Nat) (x : Int) (hx : (ordZ c)[k]? = some x) : refuseL (waitL (nameK n) c k) (nameK n) x = 0 ∧ takeL (waitL (nameK n) c k) (nameK n) x true = (waitL (nameK n) c (k + 1), 10, 9) := by
  match k with
  | 0 => cases (show some c = some x from hx); exact fair_wait0 n c hc
  | 1 => cases (show some (1 + c % 3) = some x from hx); exact fair_wait1 n c hc
  | 2 => cases (show some (1 + (1 + c % 3) % 3) = some x from hx); exact fair_wait2 n c hc
  | k + 3 => simp [ordZ] at hx

/-- One step of those who give the lock up. -/
def PassOk (nm : ByteArray) (c : Int) (k : Nat) : Prop := refuseL (passL nm c k) nm (headZ c k) = 0 ∧ freeL (passL nm c k) nm (headZ c k) = (passL nm c (k + 1), 0, headZ c (k + 1)) ∧ checkL (passL nm c (k + 1)) = 0 ∧ whoL (passL nm c (k + 1)) nm = (headZ c (k + 1), fenceZ (k + 1))

theorem fair_pass0 (n c : Int) (hc : c = 1 ∨ c = 2 ∨ c = 3) : PassOk (nameK n) c 0 :=
  fair_names (P := fun nm c => PassOk nm c 0) n c hc (by refine ⟨⟨?_, ?_, ?_, ?_⟩, ⟨?_, ?_, ?_, ?_⟩, ⟨?_, ?_, ?_, ?_⟩, ⟨?_, ?_, ?_, ?_⟩, ⟨?_, ?_, ?_, ?_⟩, ⟨?_, ?_, ?_, ?_⟩, ⟨?_, ?_, ?_, ?_⟩, ⟨?_, ?_, ?_, ?_⟩, ⟨?_, ?_, ?_, ?_⟩⟩ <;> kernel_rfl)
theorem fair_pass1 (n c : Int) (hc : c = 1 ∨ c = 2 ∨ c = 3) : PassOk (nameK n) c 1 :=
  fair_names (P := fun nm c => PassOk nm c 1) n c hc (by refine ⟨⟨?_, ?_, ?_, ?_⟩, ⟨?_, ?_, ?_, ?_⟩, ⟨?_, ?_, ?_, ?_⟩, ⟨?_, ?_, ?_, ?_⟩, ⟨?_, ?_, ?_, ?_⟩, ⟨?_, ?_, ?_, ?_⟩, ⟨?_, ?_, ?_, ?_⟩, ⟨?_, ?_, ?_, ?_⟩, ⟨?_, ?_, ?_, ?_⟩⟩ <;> kernel_rfl)
theorem fair_pass2 (n c : Int) (hc : c = 1 ∨ c = 2 ∨ c = 3) : PassOk (nameK n) c 2 :=
  fair_names (P := fun nm c => PassOk nm c 2) n c hc (by refine ⟨⟨?_, ?_, ?_, ?_⟩, ⟨?_, ?_, ?_, ?_⟩, ⟨?_, ?_, ?_, ?_⟩, ⟨?_, ?_, ?_, ?_⟩, ⟨?_, ?_, ?_, ?_⟩, ⟨?_, ?_, ?_, ?_⟩, ⟨?_, ?_, ?_, ?_⟩, ⟨?_, ?_, ?_, ?_⟩, ⟨?_, ?_, ?_, ?_⟩⟩ <;> kernel_rfl)
theorem fair_pass3 (n c : Int) (hc : c = 1 ∨ c = 2 ∨ c = 3) : PassOk (nameK n) c 3 :=
  fair_names (P := fun nm c => PassOk nm c 3) n c hc (by refine ⟨⟨?_, ?_, ?_, ?_⟩, ⟨?_, ?_, ?_, ?_⟩, ⟨?_, ?_, ?_, ?_⟩, ⟨?_, ?_, ?_, ?_⟩, ⟨?_, ?_, ?_, ?_⟩, ⟨?_, ?_, ?_, ?_⟩, ⟨?_, ?_, ?_, ?_⟩, ⟨?_, ?_, ?_, ?_⟩, ⟨?_, ?_, ?_, ?_⟩⟩ <;> kernel_rfl)
theorem fair_pass (n c : Int) (hc : c = 1 ∨ c = 2 ∨ c = 3) (k : Nat) (hk : k < 4) : PassOk (nameK n) c k := by
  match k, hk with
  | 0, _ => exact fair_pass0 n c hc
  | 1, _ => exact fair_pass1 n c hc
  | 2, _ => exact fair_pass2 n c hc
  | 3, _ => exact fair_pass3 n c hc

theorem ordZ_at (c : Int) (k : Nat) (hk : k < 3) : ∃ x, (ordZ c)[k]? = some x ∧ headZ c (k + 1) = x := by
  match k, hk with
  | 0, _ => exact ⟨_, rfl, rfl⟩
  | 1, _ => exact ⟨_, rfl, rfl⟩
  | 2, _ => exact ⟨_, rfl, rfl⟩

theorem headZ_pos (c : Int) (hc : c = 1 ∨ c = 2 ∨ c = 3) (k : Nat) (hk : k < 3) : 1 ≤ headZ c (k + 1) ∧ headZ c (k + 1) ≤ 3 ∧ fenceZ (k + 1) = k + 2 := by
  match k, hk with
  | 0, _ => simp [headZ, fenceZ]; omega
  | 1, _ => simp [headZ, fenceZ]; omega
  | 2, _ => simp [headZ, fenceZ]; omega

theorem nameK_size (n : Int) : (nameK n).size ≤ 3 := by
  rcases nameK_of n with e | e | e <;> rw [e] <;> decide
end Go.Proofs.Ytkmkocbpclkhhac
