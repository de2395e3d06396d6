/- tackroomkeep.name: one of three names. -/
import Derived.Test.YtnclipjepefpjaeDoorKeepPicked
namespace Go.Proofs.YtnclipjepefpjaeDoor
open Go.RowKit

/-- What name answers. -/
def nameK (n : Int) : ByteArray := if pickZ n 3 = 0 then ⟨#[97]⟩ else if pickZ n 3 = 1 then ⟨#[98]⟩ else ⟨#[107, 101, 121]⟩

theorem nameK_of (n : Int) : nameK n = ⟨#[97]⟩ ∨ nameK n = ⟨#[98]⟩ ∨ nameK n = ⟨#[107, 101, 121]⟩ := by
  unfold nameK
  split
  · exact Or.inl rfl
  · split
    · exact Or.inr (Or.inl rfl)
    · exact Or.inr (Or.inr rfl)

theorem keepName_exact (n : Int) (w : World) (h1 : -9223372036854775808 ≤ n) (h2 : n ≤ 9223372036854775807) :
    Calls Tryd.prog 13 #[.int .i64 n] w fun e w' => e = .returned (.string (nameK n)) ∧ w' = w.alloc (.cells #[.string ⟨#[97]⟩, .string ⟨#[98]⟩, .string ⟨#[107, 101, 121]⟩] 9) := by
  have hp := pickZ_bd n 3 (by omega)
  have CP := fun w => picked_any n 3 w h1 h2 (by omega) (by omega)
  unfold nameK
  obtain ⟨p, hpe⟩ : ∃ p, p = pickZ n 3 := ⟨_, rfl⟩
  rw [← hpe] at CP hp ⊢
  clear hpe
  rcases (by omega : p = 0 ∨ p = 1 ∨ p = 2) with rfl | rfl | rfl
  all_goals
    go_enter Tryd.func13, Tryd.ntmps13
    go_wp2_with fail
    refine (CP _).mono ?_
    rintro e w1 ⟨rfl, rfl⟩
    go_wp2
    go_ret
    exact ⟨by simp, rfl⟩

theorem keepName_any (n : Int) (w : World) (h1 : -9223372036854775808 ≤ n) (h2 : n ≤ 9223372036854775807) :
    Calls Tryd.prog 13 #[.int .i64 n] w fun e w' => e = .returned (.string (nameK n)) ∧ Below w.heap.size w w' := by
  have hp := pickZ_bd n 3 (by omega)
  have CP := fun w => picked_any n 3 w h1 h2 (by omega) (by omega)
  have HB : Hid (∀ o, Below w.heap.size w (w.alloc o)) := fun o => (Below.refl _ _).alloc (Nat.le_refl _) _
  unfold nameK
  obtain ⟨p, hpe⟩ : ∃ p, p = pickZ n 3 := ⟨_, rfl⟩
  rw [← hpe] at CP hp ⊢
  clear hpe
  rcases (by omega : p = 0 ∨ p = 1 ∨ p = 2) with rfl | rfl | rfl
  all_goals
    go_enter Tryd.func13, Tryd.ntmps13
    go_wp2_with fail
    refine (CP _).mono ?_
    rintro e w1 ⟨rfl, rfl⟩
    go_wp2
    go_ret
    exact ⟨by simp, HB.out _⟩
end Go.Proofs.YtnclipjepefpjaeDoor
