/- The walk of tackroomlaw.CustomerChecks (joined by program) -/
import Derived.Test.YtcjoekjjebcomakCC12
import Derived.Test.YtcjoekjjebcomakCC15
namespace Go.Proofs.Ytcjoekjjebcomak

open Go.RowKit

set_option maxRecDepth 100000 in
set_option maxHeartbeats 1600000 in
theorem customerChecks_walk (v : Value) (c : CustD) (w : World) (hv : CustR w w.heap.size v c) :
    Calls Try.prog 3 #[v] w fun e w' => e = .returned (.bool true) ∧ Below w.heap.size w w' := by
  have C1 := ghid (fun u (hu : Below w.heap.size w u) => custCheck_any v c u w.heap.size (hv.below hu (Nat.le_refl _)) hu.size)
  have C2 := ghid (fun u (hu : Below w.heap.size w u) => customerFault_any v c u w.heap.size (hv.below hu (Nat.le_refl _)) hu.size)
  obtain ⟨id, se, nx, ao, n, cap, rfl⟩ := hv.raw
  obtain ⟨r, hr⟩ : ∃ r, r = checkC c := ⟨_, rfl⟩
  rw [← hr] at C1 C2
  have HB0 : Hid (Below w.heap.size w (w.alloc (.cells #[.int .i64 id, .int .i64 se, .int .i64 nx, .slice ao n cap] 24))) := (Below.refl _ _).alloc (Nat.le_refl _) _
  have HX0 := ghid (heap_alloc_new w (.cells #[.int .i64 id, .int .i64 se, .int .i64 nx, .slice ao n cap] 24))
  clear hv hr
  go_enter Try.func3, Try.ntmps3
  go_wp2_with fail
  refine (C1.out _ HB0.out).mono ?_
  rintro e w1 ⟨rfl, hb1⟩
  obtain ⟨c0, c1, c2, c3, cf, cl⟩ := state_cells (behind HX0.out (Below.refl _ _) hb1)
  have HB1 := ghid (HB0.out.trans (hb1.mono HB0.out.size))
  clear hb1
  go_wp2_with fail
  refine (C2.out _ HB1.out).mono ?_
  rintro e w2 ⟨rfl, hb2⟩
  have HB2 := ghid (HB1.out.trans (hb2.mono HB1.out.size))
  clear hb2
  go_wp2
  go_ret
  exact ⟨by simp, HB2.out⟩

end Go.Proofs.Ytcjoekjjebcomak
