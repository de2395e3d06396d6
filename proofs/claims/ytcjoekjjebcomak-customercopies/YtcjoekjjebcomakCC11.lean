/- The walk of tackroomlaw.CustomerCopies (joined by program) -/
import Derived.Test.YtcjoekjjebcomakCC09
import Derived.Test.YtcjoekjjebcomakCC10
namespace Go.Proofs.Ytcjoekjjebcomak

open Go.RowKit

set_option maxRecDepth 100000 in
set_option maxHeartbeats 1600000 in
theorem customerCopies_walk (v : Value) (c : CustD) (w : World) (hv : CustR w w.heap.size v c) :
    Calls Try.prog 4 #[v] w fun e w' => e = .returned (.bool true) ∧ Below w.heap.size w w' := by
  have HV := ghid hv
  have C1 := ghid (fun u (hu : Below w.heap.size w u) => custCopy_own v c u w.heap.size (hv.below hu (Nat.le_refl _)) hu.size)
  obtain ⟨id, se, nx, ao, n, cap, rfl⟩ := hv.raw
  have HL : Hid (c.waits.length * 56 ≤ 140737488351232 ∧ ModestW c.waits) := by
    obtain ⟨wv, -, h⟩ := hv
    exact ⟨h.len, h.modest⟩
  have HB0 : Hid (Below w.heap.size w (w.alloc (.cells #[.int .i64 id, .int .i64 se, .int .i64 nx, .slice ao n cap] 24))) := (Below.refl _ _).alloc (Nat.le_refl _) _
  have HX0 := ghid (heap_alloc_new w (.cells #[.int .i64 id, .int .i64 se, .int .i64 nx, .slice ao n cap] 24))
  clear hv
  go_enter Try.func4, Try.ntmps4
  go_wp2_with fail
  refine (C1.out _ HB0.out).mono ?_
  rintro e w1 ⟨rfl, hrow, hb1⟩
  have hr1 := waits_row_reads hrow HL.out.1 HL.out.2 (Nat.le_refl _)
  have hx1 := behind HX0.out (Below.refl _ _) hb1
  have HB1 := ghid (HB0.out.trans (hb1.mono HB0.out.size))
  obtain ⟨ro, hro⟩ : ∃ x, x = (w.alloc (.cells #[.int .i64 id, .int .i64 se, .int .i64 nx, .slice ao n cap] 24)).heap.size + 2 := ⟨_, rfl⟩
  rw [← hro] at hr1 ⊢
  have hba := (Below.refl w1.heap.size w1).alloc (Nat.le_refl _) (.cells #[.int .i64 c.id, .int .i64 c.session, .int .i64 c.next, .slice (some ⟨ro, 0, none⟩) c.waits.length c.waits.length] 24)
  have HB2 := ghid (HB1.out.trans (hba.mono HB1.out.size))
  have CS := ghid (sameCustomer_eq _ _ c _ w1.heap.size w.heap.size (CustR.below ⟨_, rfl, hr1⟩ hba (Nat.le_refl _)) (HV.out.below HB2.out (Nat.le_refl _)) hba.size HB2.out.size)
  obtain ⟨c0, c1, c2, c3, cf, hpl⟩ := state_cells hx1
  clear hr1 hb1 hx1 hba C1 hro hrow
  go_wp2_with fail
  refine CS.out.mono ?_
  rintro e w3 ⟨rfl, hb3⟩
  have HB3 := ghid (HB2.out.trans (hb3.mono HB2.out.size))
  clear hb3
  go_wp2
  go_ret
  exact ⟨rfl, HB3.out⟩

end Go.Proofs.Ytcjoekjjebcomak
