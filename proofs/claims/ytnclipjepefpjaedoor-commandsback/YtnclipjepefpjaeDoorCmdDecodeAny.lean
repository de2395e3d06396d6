/- command.Decode, at every text. -/
import Derived.Test.YtnclipjepefpjaeDoorCmdDecode
namespace Go.Proofs.YtnclipjepefpjaeDoor
open Go.RowKit

set_option maxRecDepth 100000 in
set_option maxHeartbeats 1600000 in
theorem decode_long (s : ByteArray) (w : World) (hs : s.size ≤ 140737488351232) (h : 5000 < s.size) :
    Calls Tryd.prog 6 #[.string s] w fun e w' => e = .returned (.tuple #[cmdV CmdD.zero, .int .i64 1]) ∧ Below w.heap.size w w' := by
  have hb0 : Below w.heap.size w (w.alloc (.cells #[.int .i64 0, .int .i64 0, .int .i64 0, .int .i64 0, .int .i64 0, .int .i64 0, .string ⟨#[]⟩, .string ⟨#[]⟩, .int .i64 0] 28)) := (Below.refl _ _).alloc (Nat.le_refl _) _
  have HB := chid hb0
  clear hb0
  go_enter Tryd.func6, Tryd.ntmps6
  go_wp2
  refine bodyPost_ret (v := .tuple #[.agg #[.int .i64 0, .int .i64 0, .int .i64 0, .int .i64 0, .int .i64 0, .int .i64 0, .string ⟨#[]⟩, .string ⟨#[]⟩, .int .i64 0], .int .i64 1]) (by simp [results, Tryd.results6, go_sem]) rfl ⟨rfl, ?_⟩
  first
    | exact HB.out
    | exact below_set9 HB.out (Nat.le_refl _) _ _ _ _ _ _ _ _ _

set_option maxRecDepth 100000 in
set_option maxHeartbeats 1600000 in
theorem decode_short (s : ByteArray) (w : World) (h : s.size < 2) :
    Calls Tryd.prog 6 #[.string s] w fun e w' => e = .returned (.tuple #[cmdV CmdD.zero, .int .i64 5]) ∧ Below w.heap.size w w' := by
  have hb0 : Below w.heap.size w (w.alloc (.cells #[.int .i64 0, .int .i64 0, .int .i64 0, .int .i64 0, .int .i64 0, .int .i64 0, .string ⟨#[]⟩, .string ⟨#[]⟩, .int .i64 0] 28)) := (Below.refl _ _).alloc (Nat.le_refl _) _
  have HB := chid hb0
  clear hb0
  go_enter Tryd.func6, Tryd.ntmps6
  go_wp2
  refine bodyPost_ret (v := .tuple #[.agg #[.int .i64 0, .int .i64 0, .int .i64 0, .int .i64 0, .int .i64 0, .int .i64 0, .string ⟨#[]⟩, .string ⟨#[]⟩, .int .i64 0], .int .i64 5]) (by simp [results, Tryd.results6, go_sem]) rfl ⟨rfl, ?_⟩
  first
    | exact HB.out
    | exact below_set9 HB.out (Nat.le_refl _) _ _ _ _ _ _ _ _ _

/-- DECODE, AT EVERY TEXT. -/
theorem decode_any (s : ByteArray) (w : World) (hs : s.size ≤ 140737488351232) :
    Calls Tryd.prog 6 #[.string s] w fun e w' => e = .returned (.tuple #[cmdV (decL s), .int .i64 (decE s)]) ∧ Below w.heap.size w w' := by
  by_cases h1 : 5000 < s.size
  · have e : decE s = 1 := if_pos h1
    have l : decL s = CmdD.zero := by unfold decL; rw [if_neg (by omega)]
    rw [e, l]
    exact decode_long s w hs h1
  · by_cases h2 : s.size < 2
    · have e : decE s = 5 := by unfold decE; rw [if_neg h1, if_pos h2]
      have l : decL s = CmdD.zero := by unfold decL; rw [if_neg (by omega)]
      rw [e, l]
      exact decode_short s w h2
    · exact decode_rest s w (by omega) (by omega)

end Go.Proofs.YtnclipjepefpjaeDoor
