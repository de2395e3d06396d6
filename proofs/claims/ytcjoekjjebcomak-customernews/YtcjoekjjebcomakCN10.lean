/- The document's CustomerOf; the walk of tackroomlaw.CustomerNews (joined by program) -/
import Derived.Test.YtcjoekjjebcomakCN06
import Derived.Test.YtcjoekjjebcomakCN09
namespace Go.Proofs.Ytcjoekjjebcomak

open Go.RowKit

theorem customerOf_ok (n : Int) (w : World) (h : 1 ≤ n ∧ n ≤ 9) :
    Calls Try.prog 14 #[.int .i64 n] w fun e w' => e = .returned (.tuple #[.agg #[.int .i64 n, .int .i64 0, .int .i64 1, .slice none 0 0], .int .i64 0]) ∧ Below w.heap.size w w' := by
  go_enter Try.func14, Try.ntmps14
  go_wp2_with fail
  refine (in_yes n 1 9 _ h.1 h.2).mono ?_
  rintro e w1 ⟨rfl, rfl⟩
  go_wp2
  refine bodyPost_ret (v := .tuple #[.agg #[.int .i64 n, .int .i64 0, .int .i64 1, .slice none 0 0], .int .i64 0]) (by simp [results, Try.results14, go_sem]) rfl ?_
  exact ⟨rfl, (Below.refl _ _).alloc (Nat.le_refl _) _⟩

theorem customerOf_bad (n : Int) (w : World) (h : ¬ (1 ≤ n ∧ n ≤ 9)) :
    Calls Try.prog 14 #[.int .i64 n] w fun e w' => e = .returned (.tuple #[.agg #[.int .i64 0, .int .i64 0, .int .i64 0, .slice none 0 0], .int .i64 2]) ∧ Below w.heap.size w w' := by
  go_enter Try.func14, Try.ntmps14
  go_wp2_with fail
  refine (cin_no n 1 9 _ h).mono ?_
  rintro e w1 ⟨rfl, rfl⟩
  go_wp2
  refine bodyPost_ret (v := .tuple #[.agg #[.int .i64 0, .int .i64 0, .int .i64 0, .slice none 0 0], .int .i64 2]) (by simp [results, Try.results14, go_sem]) rfl ?_
  exact ⟨rfl, (Below.refl _ _).alloc (Nat.le_refl _) _⟩

theorem cust_flat (w : World) (B : Nat) (id se nx : Int) : CustR w B (.agg #[.int .i64 id, .int .i64 se, .int .i64 nx, .slice none 0 0]) ⟨id, se, nx, []⟩ := ⟨_, rfl, WaitsR.nil _ _⟩

set_option maxRecDepth 100000 in
set_option maxHeartbeats 1600000 in
theorem customerNews_walk (n : Int) (w : World) :
    Calls Try.prog 5 #[.int .i64 n] w fun e w' => e = .returned (.bool true) ∧ Below w.heap.size w w' := by
  obtain ⟨id, nx, r, C1, C2⟩ : ∃ id nx r : Int, Hid (∀ u : World, Calls Try.prog 13 #[.int .i64 n] u fun e w' => e = .returned (.tuple #[.agg #[.int .i64 id, .int .i64 0, .int .i64 nx, .slice none 0 0], .int .i64 r]) ∧ Below u.heap.size u w') ∧
      Hid (∀ u : World, Calls Try.prog 14 #[.int .i64 n] u fun e w' => e = .returned (.tuple #[.agg #[.int .i64 id, .int .i64 0, .int .i64 nx, .slice none 0 0], .int .i64 r]) ∧ Below u.heap.size u w') := by
    by_cases h : 1 ≤ n ∧ n ≤ 9
    · exact ⟨n, 1, 0, fun u => New_ok n u h, fun u => customerOf_ok n u h⟩
    · exact ⟨0, 0, 2, fun u => New_bad n u h, fun u => customerOf_bad n u h⟩
  go_enter Try.func5, Try.ntmps5
  go_wp2_with fail
  refine (C1.out _).mono ?_
  rintro e w1 ⟨rfl, hb1⟩
  have hx1 := heap_alloc_new w1 (.cells #[.int .i64 id, .int .i64 0, .int .i64 nx, .slice none 0 0] 24)
  have HX1 := ghid hx1
  have HB1 : Hid (Below w.heap.size w (w1.alloc (.cells #[.int .i64 id, .int .i64 0, .int .i64 nx, .slice none 0 0] 24))) := hb1.alloc hb1.size _
  clear hx1
  go_wp2_with fail
  refine (C2.out _).mono ?_
  rintro e w2 ⟨rfl, hb2⟩
  obtain ⟨c0, c1, c2, c3, cf, cl⟩ := state_cells (behind HX1.out (Below.refl _ _) hb2)
  have HB2 : Hid (Below w.heap.size w (w2.alloc (.cells #[.int .i64 id, .int .i64 0, .int .i64 nx, .slice none 0 0] 24))) := (HB1.out.trans (hb2.mono HB1.out.size)).alloc (by have := HB1.out.size; have := hb2.size; omega) _
  have CS := ghid (fun u => sameCustomer_eq _ _ ⟨id, 0, nx, []⟩ u u.heap.size u.heap.size (cust_flat u _ id 0 nx) (cust_flat u _ id 0 nx) (Nat.le_refl _) (Nat.le_refl _))
  clear hb2 hb1 C1 C2
  go_wp2_with fail
  refine (CS.out _).mono ?_
  rintro e w3 ⟨rfl, hb3⟩
  have HB3 := ghid (HB2.out.trans (hb3.mono HB2.out.size))
  clear hb3
  go_wp2
  go_ret
  exact ⟨rfl, HB3.out⟩

end Go.Proofs.Ytcjoekjjebcomak
