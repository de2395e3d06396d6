/- Plain mathematics of Leave. (Written by gen_leave.py.) -/
import Derived.Test.YtmcdbdcabiccnafSessJoinMath
namespace Go.Proofs.Ytmcdbdcabiccnaf
open Go.RowKit

theorem leaveS_there {ls : List SessD} {c : Int} (ht : thereS ls c = true) : leaveS ls c = (ls.eraseIdx (placeS ls c), ⟨0, 0, ⟨#[]⟩⟩) := by unfold leaveS; rw [if_pos ht]
theorem leaveS_away {ls : List SessD} {c : Int} (ht : thereS ls c = false) : leaveS ls c = (ls, ⟨11, 0, ⟨#[]⟩⟩) := by unfold leaveS; rw [if_neg (by simp [ht])]
theorem map_erase {ls : List SessD} {rs : List (SessD × Value)} {n : Nat} (hrs : rs.map (·.1) = ls) : (rs.eraseIdx n).map (·.1) = ls.eraseIdx n := by rw [← hrs, List.eraseIdx_eq_take_drop_succ, List.eraseIdx_eq_take_drop_succ, List.map_append, List.map_take, List.map_drop]

end Go.Proofs.Ytmcdbdcabiccnaf
