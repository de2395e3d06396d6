/- customer.known, customer.Hello (joined by program) -/
import Derived.Test.YtcjoekjjebcomakCH12
import Derived.Test.YtcjoekjjebcomakCH18
namespace Go.Proofs.Ytcjoekjjebcomak

open Go.RowKit

theorem cmdE_join {id : Int} (h : 1 ≤ id ∧ id ≤ 9) : cmdE 1 id 0 0 0 0 ⟨#[]⟩ ⟨#[]⟩ 0 = 0 := by
  unfold cmdE
  rw [if_neg (by omega), if_neg (by omega), if_neg (by omega), if_pos ⟨rfl, rfl, rfl, rfl, rfl, rfl, rfl⟩]

set_option maxRecDepth 100000 in
set_option maxHeartbeats 1600000 in
theorem Hello_bad (v : Value) (c : CustD) (w : World) (B : Nat) (hv : CustR w B v c) (hB : B ≤ w.heap.size) (hc : checkC c ≠ 0) :
    Calls Try.prog 18 #[v] w fun e w' => e = .returned (.tuple #[.string ⟨#[]⟩, .int .i64 (checkC c)]) ∧ Below w.heap.size w w' := by
  have C1 := ghid (fun u (hu : Below w.heap.size w u) => custCheck_any v c u B (hv.below hu hB) (by have := hu.size; omega))
  obtain ⟨ao, cap, rfl, -⟩ := hv.shape
  obtain ⟨r, hr⟩ : ∃ r, r = checkC c := ⟨_, rfl⟩
  obtain ⟨id, se, nx, ws⟩ := c
  simp only at C1 ⊢
  obtain ⟨n, hn⟩ : ∃ n, n = ws.length := ⟨_, rfl⟩
  rw [← hn, ← hr] at C1
  rw [← hr] at hc
  rw [← hn, ← hr]
  have HB0 : Hid (Below w.heap.size w (w.alloc (.cells #[.int .i64 id, .int .i64 se, .int .i64 nx, .slice ao n cap] 24))) := (Below.refl _ _).alloc (Nat.le_refl _) _
  have hcb : (r != 0) = true := by simpa using hc
  clear hv hr hn hc
  go_enter Try.func18, Try.ntmps18
  go_wp2_with fail
  refine (C1.out _ HB0.out).mono ?_
  rintro e w1 ⟨rfl, hb1⟩
  have HB1 := ghid (HB0.out.trans (hb1.mono HB0.out.size))
  clear hb1
  go_wp2
  refine bodyPost_ret (v := .tuple #[.string ⟨#[]⟩, .int .i64 r]) (by simp [results, Try.results18, go_sem]) rfl ?_
  exact ⟨rfl, HB1.out⟩

set_option maxRecDepth 100000 in
set_option maxHeartbeats 1600000 in
theorem Hello_ok (v : Value) (c : CustD) (w : World) (B : Nat) (hv : CustR w B v c) (hB : B ≤ w.heap.size) (hc : checkC c = 0) :
    Calls Try.prog 18 #[v] w fun e w' => e = .returned (.tuple #[.string (strOfNums [1, c.id]), .int .i64 0]) ∧ Below w.heap.size w w' := by
  have C1 := ghid (fun u (hu : Below w.heap.size w u) => custCheck_any v c u B (hv.below hu hB) (by have := hu.size; omega))
  have hid := (GoodC.of hc).id
  rw [hc] at C1
  obtain ⟨ao, cap, rfl, -⟩ := hv.shape
  obtain ⟨id, se, nx, ws⟩ := c
  simp only at C1 hid ⊢
  obtain ⟨n, hn⟩ : ∃ n, n = ws.length := ⟨_, rfl⟩
  rw [← hn] at C1 ⊢
  have HX0 := ghid (heap_alloc_new w (.cells #[.int .i64 id, .int .i64 se, .int .i64 nx, .slice ao n cap] 24))
  have HB0 : Hid (Below w.heap.size w (w.alloc (.cells #[.int .i64 id, .int .i64 se, .int .i64 nx, .slice ao n cap] 24))) := (Below.refl _ _).alloc (Nat.le_refl _) _
  have C2 := ghid (fun u => encode_rest 1 id 0 0 0 0 ⟨#[]⟩ ⟨#[]⟩ 0 u (by unfold FitsC; omega) (by unfold ShortC; show (0 : Nat) ≤ _; omega) (by unfold ShortC; show (0 : Nat) ≤ _; omega) (cmdE_join hid) (by omega))
  clear hv hn hc hid
  go_enter Try.func18, Try.ntmps18
  go_wp2_with fail
  refine (C1.out _ HB0.out).mono ?_
  rintro e w1 ⟨rfl, hb1⟩
  have HB1 := ghid (HB0.out.trans (hb1.mono HB0.out.size))
  obtain ⟨c0, c1, c2, c3, cf, cl⟩ := state_cells (behind HX0.out (Below.refl _ _) hb1)
  clear hb1
  go_wp2_with fail
  refine (C2.out _).mono ?_
  rintro e w2 ⟨rfl, hb2⟩
  have HB2 := ghid (HB1.out.trans (hb2.mono HB1.out.size))
  clear hb2
  go_wp2
  refine bodyPost_ret (v := .tuple #[.string (strOfNums [1, id]), .int .i64 0]) (by simp [results, Try.results18, go_sem]) rfl ?_
  exact ⟨rfl, HB2.out⟩

end Go.Proofs.Ytcjoekjjebcomak
