/- tackroomkeep.name: one of three names; strconv.Itoa of a number below 100: a short text (joined by program) -/
import Derived.Test.YtcjoekjjebcomalDoorRows
import Derived.WalkKit
import Derived.ProofKit
import Derived.WalkLawsBesides
import Derived.Lib.Hide
import Derived.Lib.ItoaWalk
import Derived.Test.YtcjoekjjebcomalDoorCA21
namespace Go.Proofs.YtcjoekjjebcomalDoor

open Go.RowKit

/-- What name answers. -/
def nameK (n : Int) : ByteArray := if pickZ n 3 = 0 then ⟨#[97]⟩ else if pickZ n 3 = 1 then ⟨#[98]⟩ else ⟨#[107, 101, 121]⟩

theorem nameK_of (n : Int) : nameK n = ⟨#[97]⟩ ∨ nameK n = ⟨#[98]⟩ ∨ nameK n = ⟨#[107, 101, 121]⟩ := by
  unfold nameK
  split
  · exact Or.inl rfl
  · split
    · exact Or.inr (Or.inl rfl)
    · exact Or.inr (Or.inr rfl)

theorem keepName_exact (n : Int) (w : World) (h1 : -9223372036854775808 ≤ n) (h2 : n ≤ 9223372036854775807) :
    Calls Tryd.prog 20 #[.int .i64 n] w fun e w' => e = .returned (.string (nameK n)) ∧ w' = w.alloc (.cells #[.string ⟨#[97]⟩, .string ⟨#[98]⟩, .string ⟨#[107, 101, 121]⟩] 9) := by
  have hp := pickZ_bd n 3 (by omega)
  have CP := fun w => picked_any n 3 w h1 h2 (by omega) (by omega)
  unfold nameK
  obtain ⟨p, hpe⟩ : ∃ p, p = pickZ n 3 := ⟨_, rfl⟩
  rw [← hpe] at CP hp ⊢
  clear hpe
  rcases (by omega : p = 0 ∨ p = 1 ∨ p = 2) with rfl | rfl | rfl
  all_goals
    go_enter Tryd.func20, Tryd.ntmps20
    go_wp2_with fail
    refine (CP _).mono ?_
    rintro e w1 ⟨rfl, rfl⟩
    go_wp2
    go_ret
    exact ⟨by simp, rfl⟩

end Go.Proofs.YtcjoekjjebcomalDoor

namespace Go.Proofs.YtcjoekjjebcomalDoor

open Go.RowKit

set_option maxHeartbeats 2000000 in
set_option maxRecDepth 100000 in
theorem small_any (i : Int) (h0 : 0 ≤ i) (h1 : i < 100) (w : World) :
    Calls Tryd.prog 50 #[.int .i64 i] w fun e w' => ∃ s, e = .returned (.string s) ∧ s.size ≤ 2 ∧ w' = w := by
  go_enter Tryd.func50, Tryd.ntmps50
  go_name_bytes_deep 45 SM hSM
  have eSM : SM.size = 200 := by rw [← hSM]; decide +kernel
  clear hSM
  go_name_bytes_deep 30 DG hDG
  have eDG : DG.size = 36 := by rw [← hDG]; decide +kernel
  clear hDG
  by_cases h : i < 10
  · have hsl : ∀ w, (Instr.slice 9 (.string DG) (some (.int .i64 i)) (some (.int .i64 (i + 1))) none).run Tryd.prog w = .ok (.string (DG.extract i.toNat (i + 1).toNat)) w := fun w => by
      rw [run_slice_string w 9 DG .i64 .i64 _ _ Tryd.underlying9 (by omega) (by omega) (by rw [eDG]; omega)]
    go_wp2
    go_ret
    exact ⟨_, rfl, by simp [ByteArray.size_extract]; omega, rfl⟩
  · have hsl : ∀ w, (Instr.slice 9 (.string SM) (some (.int .i64 (i * 2))) (some (.int .i64 (i * 2 + 2))) none).run Tryd.prog w = .ok (.string (SM.extract (i * 2).toNat (i * 2 + 2).toNat)) w := fun w => by
      rw [run_slice_string w 9 SM .i64 .i64 _ _ Tryd.underlying9 (by omega) (by omega) (by rw [eSM]; omega)]
    go_wp2
    go_ret
    exact ⟨_, rfl, by simp [ByteArray.size_extract]; omega, rfl⟩

theorem formatInt_any (i : Int) (h0 : 0 ≤ i) (h1 : i < 100) (w : World) :
    Calls Tryd.prog 46 #[.int .i64 i, .int .i64 10] w fun e w' => ∃ s, e = .returned (.string s) ∧ s.size ≤ 2 ∧ w' = w := by
  go_enter Tryd.func46, Tryd.ntmps46
  go_wp2_with fail
  refine (small_any i h0 h1 _).mono ?_
  rintro e w1 ⟨s, rfl, hs, rfl⟩
  go_wp2
  go_ret
  exact ⟨_, rfl, hs, rfl⟩

theorem inItoa_any (i : Int) (h0 : 0 ≤ i) (h1 : i < 100) (w : World) :
    Calls Tryd.prog 34 #[.int .i64 i] w fun e w' => ∃ s, e = .returned (.string s) ∧ s.size ≤ 2 ∧ w' = w := by
  go_enter Tryd.func34, Tryd.ntmps34
  go_wp2_with fail
  refine (formatInt_any i h0 h1 _).mono ?_
  rintro e w1 ⟨s, rfl, hs, rfl⟩
  go_wp2
  go_ret
  exact ⟨_, rfl, hs, rfl⟩

theorem itoa_any (i : Int) (h0 : 0 ≤ i) (h1 : i < 100) (w : World) :
    Calls Tryd.prog 21 #[.int .i64 i] w fun e w' => ∃ s, e = .returned (.string s) ∧ s.size ≤ 2 ∧ w' = w := by
  go_enter Tryd.func21, Tryd.ntmps21
  go_wp2_with fail
  refine (inItoa_any i h0 h1 _).mono ?_
  rintro e w1 ⟨s, rfl, hs, rfl⟩
  go_wp2
  go_ret
  exact ⟨_, rfl, hs, rfl⟩

end Go.Proofs.YtcjoekjjebcomalDoor
