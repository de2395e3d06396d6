/- strconv.Itoa of a number below 100: a short text. -/
import Derived.Test.YtnclipjepefpjaeDoorRows
import Derived.WalkKit
import Derived.ProofKit
import Derived.WalkLawsBesides
import Derived.Lib.Hide
import Derived.Lib.ItoaWalk
namespace Go.Proofs.YtnclipjepefpjaeDoor
open Go.RowKit

set_option maxHeartbeats 2000000 in
set_option maxRecDepth 100000 in
theorem small_any (i : Int) (h0 : 0 ≤ i) (h1 : i < 100) (w : World) :
    Calls Tryd.prog 34 #[.int .i64 i] w fun e w' => ∃ s, e = .returned (.string s) ∧ s.size ≤ 2 ∧ w' = w := by
  go_enter Tryd.func34, Tryd.ntmps34
  go_name_bytes_deep 45 SM hSM
  have eSM : SM.size = 200 := by rw [← hSM]; decide +kernel
  clear hSM
  go_name_bytes_deep 30 DG hDG
  have eDG : DG.size = 36 := by rw [← hDG]; decide +kernel
  clear hDG
  by_cases h : i < 10
  · have hsl : ∀ w, (Instr.slice 9 (.string DG) (some (.int .i64 i)) (some (.int .i64 (i + 1))) none).run Tryd.prog w = .ok (.string (DG.extract i.toNat (i + 1).toNat)) w := fun w => by
      rw [run_slice_string w 9 DG .i64 .i64 _ _ Tryd.underlying9 (by omega) (by omega) (by rw [eDG]; omega)]
    go_wp2
    go_ret
    exact ⟨_, rfl, by simp [ByteArray.size_extract]; omega, rfl⟩
  · have hsl : ∀ w, (Instr.slice 9 (.string SM) (some (.int .i64 (i * 2))) (some (.int .i64 (i * 2 + 2))) none).run Tryd.prog w = .ok (.string (SM.extract (i * 2).toNat (i * 2 + 2).toNat)) w := fun w => by
      rw [run_slice_string w 9 SM .i64 .i64 _ _ Tryd.underlying9 (by omega) (by omega) (by rw [eSM]; omega)]
    go_wp2
    go_ret
    exact ⟨_, rfl, by simp [ByteArray.size_extract]; omega, rfl⟩

theorem formatInt_any (i : Int) (h0 : 0 ≤ i) (h1 : i < 100) (w : World) :
    Calls Tryd.prog 28 #[.int .i64 i, .int .i64 10] w fun e w' => ∃ s, e = .returned (.string s) ∧ s.size ≤ 2 ∧ w' = w := by
  go_enter Tryd.func28, Tryd.ntmps28
  go_wp2_with fail
  refine (small_any i h0 h1 _).mono ?_
  rintro e w1 ⟨s, rfl, hs, rfl⟩
  go_wp2
  go_ret
  exact ⟨_, rfl, hs, rfl⟩

theorem inItoa_any (i : Int) (h0 : 0 ≤ i) (h1 : i < 100) (w : World) :
    Calls Tryd.prog 23 #[.int .i64 i] w fun e w' => ∃ s, e = .returned (.string s) ∧ s.size ≤ 2 ∧ w' = w := by
  go_enter Tryd.func23, Tryd.ntmps23
  go_wp2_with fail
  refine (formatInt_any i h0 h1 _).mono ?_
  rintro e w1 ⟨s, rfl, hs, rfl⟩
  go_wp2
  go_ret
  exact ⟨_, rfl, hs, rfl⟩

theorem itoa_any (i : Int) (h0 : 0 ≤ i) (h1 : i < 100) (w : World) :
    Calls Tryd.prog 14 #[.int .i64 i] w fun e w' => ∃ s, e = .returned (.string s) ∧ s.size ≤ 2 ∧ w' = w := by
  go_enter Tryd.func14, Tryd.ntmps14
  go_wp2_with fail
  refine (inItoa_any i h0 h1 _).mono ?_
  rintro e w1 ⟨s, rfl, hs, rfl⟩
  go_wp2
  go_ret
  exact ⟨_, rfl, hs, rfl⟩
end Go.Proofs.YtnclipjepefpjaeDoor
