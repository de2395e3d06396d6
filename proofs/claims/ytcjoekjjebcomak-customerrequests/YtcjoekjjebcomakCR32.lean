/- The walk of tackroomlaw.CustomerRequests (joined by program) -/
import Derived.Test.YtcjoekjjebcomakCR24
import Derived.Test.YtcjoekjjebcomakCR31
namespace Go.Proofs.Ytcjoekjjebcomak

open Go.RowKit

theorem requestE_ok {c : CustD} {k : Int} (h : requestE c k = 0) : checkC c = 0 ∧ ∃ (j : Nat) (x : WaitD), k = (j : Int) ∧ c.waits[j]? = some x := by
  unfold requestE at h
  by_cases h1 : checkC c = 0
  · rw [if_neg (by simpa using h1)] at h
    by_cases h2 : 0 ≤ k ∧ k ≤ (c.waits.length : Int) - 1
    · exact ⟨h1, k.toNat, _, by omega, List.getElem?_eq_getElem (by omega)⟩
    · rw [if_pos h2] at h; omega
  · rw [if_pos h1] at h; exact absurd h h1

set_option maxRecDepth 100000 in
set_option maxHeartbeats 1600000 in
theorem customerRequests_walk (v : Value) (c : CustD) (k : Int) (w : World) (hv : CustR w w.heap.size v c) :
    Calls Try.prog 8 #[v, .int .i64 k] w fun e w' => e = .returned (.bool true) ∧ Below w.heap.size w w' := by
  obtain ⟨t, r, C1, C2⟩ : ∃ (t : ByteArray) (r : Int), Hid (∀ u, Below w.heap.size w u → Calls Try.prog 20 #[v, .int .i64 k] u fun e w' => e = .returned (.tuple #[.string t, .int .i64 r]) ∧ Below u.heap.size u w') ∧
      Hid (∀ u, Below w.heap.size w u → Calls Try.prog 21 #[v, .int .i64 k] u fun e w' => e = .returned (.tuple #[.string t, .int .i64 r]) ∧ Below u.heap.size u w') := by
    by_cases h : requestE c k = 0
    · obtain ⟨hc, j, x, rfl, hx⟩ := requestE_ok h
      exact ⟨_, _, fun u hu => Request_ok v c j x u w.heap.size (hv.below hu (Nat.le_refl _)) hu.size hc hx, fun u hu => requestOf_ok v c j x u w.heap.size (hv.below hu (Nat.le_refl _)) hu.size hc hx⟩
    · exact ⟨_, _, fun u hu => Request_bad v c k u w.heap.size (hv.below hu (Nat.le_refl _)) hu.size h, fun u hu => requestOf_bad v c k u w.heap.size (hv.below hu (Nat.le_refl _)) hu.size h⟩
  obtain ⟨id, se, nx, ao, n, cap, rfl⟩ := hv.raw
  have HB0 : Hid (Below w.heap.size w (w.alloc (.cells #[.int .i64 id, .int .i64 se, .int .i64 nx, .slice ao n cap] 24))) := (Below.refl _ _).alloc (Nat.le_refl _) _
  have HX0 := ghid (heap_alloc_new w (.cells #[.int .i64 id, .int .i64 se, .int .i64 nx, .slice ao n cap] 24))
  clear hv
  go_enter Try.func8, Try.ntmps8
  go_wp2_with fail
  refine (C1.out _ HB0.out).mono ?_
  rintro e w1 ⟨rfl, hb1⟩
  obtain ⟨c0, c1, c2, c3, cf, cl⟩ := state_cells (behind HX0.out (Below.refl _ _) hb1)
  have HB1 := ghid (HB0.out.trans (hb1.mono HB0.out.size))
  clear hb1
  go_wp2_with fail
  refine (C2.out _ HB1.out).mono ?_
  rintro e w2 ⟨rfl, hb2⟩
  have HB2 := ghid (HB1.out.trans (hb2.mono HB1.out.size))
  clear hb2
  go_wp2
  go_ret
  exact ⟨by simp, HB2.out⟩

end Go.Proofs.Ytcjoekjjebcomak
