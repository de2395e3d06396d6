/- The document's HelloOf; the walk of tackroomlaw.CustomerHellos (joined by program) -/
import Derived.Test.YtcjoekjjebcomakCH19
import Derived.Test.YtcjoekjjebcomakCH22
import Derived.Test.YtcjoekjjebcomakCH23
namespace Go.Proofs.Ytcjoekjjebcomak

open Go.RowKit

set_option maxRecDepth 100000 in
set_option maxHeartbeats 1600000 in
theorem helloOf_bad (v : Value) (c : CustD) (w : World) (B : Nat) (hv : CustR w B v c) (hB : B ≤ w.heap.size) (hc : checkC c ≠ 0) :
    Calls Try.prog 19 #[v] w fun e w' => e = .returned (.tuple #[.string ⟨#[]⟩, .int .i64 (checkC c)]) ∧ Below w.heap.size w w' := by
  have C1 := ghid (fun u (hu : Below w.heap.size w u) => customerFault_any v c u B (hv.below hu hB) (by have := hu.size; omega))
  obtain ⟨ao, cap, rfl, -⟩ := hv.shape
  obtain ⟨r, hr⟩ : ∃ r, r = checkC c := ⟨_, rfl⟩
  obtain ⟨id, se, nx, ws⟩ := c
  simp only at C1 ⊢
  obtain ⟨n, hn⟩ : ∃ n, n = ws.length := ⟨_, rfl⟩
  rw [← hn, ← hr] at C1
  rw [← hr] at hc
  rw [← hn, ← hr]
  have HB0 : Hid (Below w.heap.size w (w.alloc (.cells #[.int .i64 id, .int .i64 se, .int .i64 nx, .slice ao n cap] 24))) := (Below.refl _ _).alloc (Nat.le_refl _) _
  have hcb : (r != 0) = true := by simpa using hc
  clear hv hr hn hc
  go_enter Try.func19, Try.ntmps19
  go_wp2_with fail
  refine (C1.out _ HB0.out).mono ?_
  rintro e w1 ⟨rfl, hb1⟩
  have HB1 := ghid (HB0.out.trans (hb1.mono HB0.out.size))
  clear hb1
  go_wp2
  refine bodyPost_ret (v := .tuple #[.string ⟨#[]⟩, .int .i64 r]) (by simp [results, Try.results19, go_sem]) rfl ?_
  exact ⟨rfl, HB1.out⟩

set_option maxRecDepth 100000 in
set_option maxHeartbeats 1600000 in
theorem helloOf_ok (v : Value) (c : CustD) (w : World) (B : Nat) (hv : CustR w B v c) (hB : B ≤ w.heap.size) (hc : checkC c = 0) :
    Calls Try.prog 19 #[v] w fun e w' => e = .returned (.tuple #[.string (strOfNums [1, c.id]), .int .i64 0]) ∧ Below w.heap.size w w' := by
  have C1 := ghid (fun u (hu : Below w.heap.size w u) => customerFault_any v c u B (hv.below hu hB) (by have := hu.size; omega))
  have hid := (GoodC.of hc).id
  rw [hc] at C1
  obtain ⟨ao, cap, rfl, -⟩ := hv.shape
  obtain ⟨id, se, nx, ws⟩ := c
  simp only at C1 hid ⊢
  obtain ⟨n, hn⟩ : ∃ n, n = ws.length := ⟨_, rfl⟩
  rw [← hn] at C1 ⊢
  have HX0 := ghid (heap_alloc_new w (.cells #[.int .i64 id, .int .i64 se, .int .i64 nx, .slice ao n cap] 24))
  have HB0 : Hid (Below w.heap.size w (w.alloc (.cells #[.int .i64 id, .int .i64 se, .int .i64 nx, .slice ao n cap] 24))) := (Below.refl _ _).alloc (Nat.le_refl _) _
  have C2 := ghid (fun u => cmdBytes_rest 1 id 0 0 0 0 ⟨#[]⟩ ⟨#[]⟩ 0 u (by unfold FitsC; omega) (by unfold ShortC; show (0 : Nat) ≤ _; omega) (by unfold ShortC; show (0 : Nat) ≤ _; omega) (cmdE_join hid) (by omega))
  clear hv hn hc hid
  go_enter Try.func19, Try.ntmps19
  go_wp2_with fail
  refine (C1.out _ HB0.out).mono ?_
  rintro e w1 ⟨rfl, hb1⟩
  have HB1 := ghid (HB0.out.trans (hb1.mono HB0.out.size))
  obtain ⟨c0, c1, c2, c3, cf, cl⟩ := state_cells (behind HX0.out (Below.refl _ _) hb1)
  clear hb1
  go_wp2_with fail
  refine (C2.out _).mono ?_
  rintro e w2 ⟨rfl, hb2⟩
  have HB2 := ghid (HB1.out.trans (hb2.mono HB1.out.size))
  clear hb2
  go_wp2
  refine bodyPost_ret (v := .tuple #[.string (strOfNums [1, id]), .int .i64 0]) (by simp [results, Try.results19, go_sem]) rfl ?_
  exact ⟨rfl, HB2.out⟩

set_option maxRecDepth 100000 in
set_option maxHeartbeats 1600000 in
theorem customerHellos_walk (v : Value) (c : CustD) (w : World) (hv : CustR w w.heap.size v c) :
    Calls Try.prog 7 #[v] w fun e w' => e = .returned (.bool true) ∧ Below w.heap.size w w' := by
  obtain ⟨t, r, C1, C2⟩ : ∃ (t : ByteArray) (r : Int), Hid (∀ u, Below w.heap.size w u → Calls Try.prog 18 #[v] u fun e w' => e = .returned (.tuple #[.string t, .int .i64 r]) ∧ Below u.heap.size u w') ∧
      Hid (∀ u, Below w.heap.size w u → Calls Try.prog 19 #[v] u fun e w' => e = .returned (.tuple #[.string t, .int .i64 r]) ∧ Below u.heap.size u w') := by
    by_cases h : checkC c = 0
    · exact ⟨_, _, fun u hu => Hello_ok v c u w.heap.size (hv.below hu (Nat.le_refl _)) hu.size h, fun u hu => helloOf_ok v c u w.heap.size (hv.below hu (Nat.le_refl _)) hu.size h⟩
    · exact ⟨_, _, fun u hu => Hello_bad v c u w.heap.size (hv.below hu (Nat.le_refl _)) hu.size h, fun u hu => helloOf_bad v c u w.heap.size (hv.below hu (Nat.le_refl _)) hu.size h⟩
  obtain ⟨id, se, nx, ao, n, cap, rfl⟩ := hv.raw
  have HB0 : Hid (Below w.heap.size w (w.alloc (.cells #[.int .i64 id, .int .i64 se, .int .i64 nx, .slice ao n cap] 24))) := (Below.refl _ _).alloc (Nat.le_refl _) _
  have HX0 := ghid (heap_alloc_new w (.cells #[.int .i64 id, .int .i64 se, .int .i64 nx, .slice ao n cap] 24))
  clear hv
  go_enter Try.func7, Try.ntmps7
  go_wp2_with fail
  refine (C1.out _ HB0.out).mono ?_
  rintro e w1 ⟨rfl, hb1⟩
  obtain ⟨c0, c1, c2, c3, cf, cl⟩ := state_cells (behind HX0.out (Below.refl _ _) hb1)
  have HB1 := ghid (HB0.out.trans (hb1.mono HB0.out.size))
  clear hb1
  go_wp2_with fail
  refine (C2.out _ HB1.out).mono ?_
  rintro e w2 ⟨rfl, hb2⟩
  have HB2 := ghid (HB1.out.trans (hb2.mono HB1.out.size))
  clear hb2
  go_wp2
  go_ret
  exact ⟨by simp, HB2.out⟩

end Go.Proofs.Ytcjoekjjebcomak
