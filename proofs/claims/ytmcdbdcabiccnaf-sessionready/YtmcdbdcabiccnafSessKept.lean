/- The law's kept: memory of its own of what is handed in. -/
import Derived.Test.YtmcdbdcabiccnafRefSessCopy
namespace Go.Proofs.Ytmcdbdcabiccnaf
open Go.RowKit

theorem kept_any (v : Value) (ls : List SessD) (w : World) (B : Nat) (hv : SessR w B v ls) (hB : B ≤ w.heap.size) :
    Calls Try.prog 8 #[v] w fun e w' => ∃ v', e = .returned v' ∧ SessR w' w'.heap.size v' ls ∧ Below w.heap.size w w' := by
  have C := sessionsCopy_any v ls w B hv hB
  obtain ⟨ao, cap, rfl, -⟩ := hv
  go_enter Try.func8, Try.ntmps8
  go_wp2_with fail
  refine C.mono ?_
  rintro e w1 ⟨v1, rs, rfl, hrs, hown, hb1⟩
  have HR := ghid (hown.reads (Nat.le_refl _))
  rw [hrs] at HR
  obtain ⟨oo, oc, rfl⟩ := grow_shape hown.row
  clear hrs hown C
  go_wp2
  go_ret
  exact ⟨_, rfl, HR.out, hb1⟩
end Go.Proofs.Ytmcdbdcabiccnaf
