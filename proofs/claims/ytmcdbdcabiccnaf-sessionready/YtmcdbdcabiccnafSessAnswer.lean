/- session.answer: what a call is answered without being done. -/
import Derived.Test.YtmcdbdcabiccnafKeptFind
import Derived.Test.YtmcdbdcabiccnafSessCopyK
import Derived.Test.YtmcdbdcabiccnafSessReply
namespace Go.Proofs.Ytmcdbdcabiccnaf
open Go.RowKit

theorem answerD_old {x : SessD} {q : Int} (h : q ≤ x.acked) : answerD x q = (⟨12, 0, ⟨#[]⟩⟩, false) := by unfold answerD; rw [if_pos h]
theorem answerD_kept {x : SessD} {q : Int} {k : KeptD} (h : ¬ q ≤ x.acked) (ht : thereK x.replies q = true) (hk : x.replies[placeK x.replies q]? = some k) : answerD x q = (⟨k.code, k.n, k.text⟩, false) := by unfold answerD; rw [if_neg h, ht, hk]
theorem answerD_far {x : SessD} {q : Int} (h : ¬ q ≤ x.acked) (ht : thereK x.replies q = false) (h2 : x.acked + 4 < q) : answerD x q = (⟨2, 0, ⟨#[]⟩⟩, false) := by unfold answerD; rw [if_neg h, ht]; simp [h2]
theorem answerD_todo {x : SessD} {q : Int} (h : ¬ q ≤ x.acked) (ht : thereK x.replies q = false) (h2 : ¬ x.acked + 4 < q) : answerD x q = (⟨0, 0, ⟨#[]⟩⟩, true) := by unfold answerD; rw [if_neg h, ht]; simp [h2]
theorem thereK_some {ks : List KeptD} {q : Int} (ht : thereK ks q = true) : ∃ k, ks[placeK ks q]? = some k ∧ k.seq = q := by
  unfold thereK at ht
  cases h : ks[placeK ks q]? with
  | none => rw [h] at ht; cases ht
  | some x => rw [h] at ht; exact ⟨x, rfl, by simpa using ht⟩

set_option maxRecDepth 100000 in
set_option maxHeartbeats 3200000 in
theorem answer_any (xc xi xa xt : Int) (lv : Value) (ks : List KeptD) (q : Int) (w : World) (B : Nat) (hv : KeptsR w B lv ks) (hB : B ≤ w.heap.size) (ha0 : 0 ≤ xa) (ha1 : xa ≤ 1048576) :
    Calls Try.prog 28 #[.agg #[.int .i64 xc, .int .i64 xi, .int .i64 xa, .int .i64 xt, lv], .int .i64 q] w fun e w' => e = .returned (.tuple #[.agg #[.int .i64 (answerD ⟨xc, xi, xa, xt, ks⟩ q).1.code, .int .i64 (answerD ⟨xc, xi, xa, xt, ks⟩ q).1.n, .string (answerD ⟨xc, xi, xa, xt, ks⟩ q).1.text], .bool (answerD ⟨xc, xi, xa, xt, ks⟩ q).2]) ∧ Below w.heap.size w w' := by
  obtain ⟨W0, hW0⟩ : ∃ W0, W0 = (w.alloc (.cells #[.int .i64 xc, .int .i64 xi, .int .i64 xa, .int .i64 xt, lv] 51)).alloc (.cells #[.int .i64 0, .int .i64 0, .string ⟨#[]⟩] 26) := ⟨_, rfl⟩
  have hb0 : Below w.heap.size w W0 := by rw [hW0]; exact ((Below.refl _ _).alloc (Nat.le_refl _) _).alloc (by simp) _
  have hz0 : W0.heap.size = w.heap.size + 2 := by rw [hW0]; simp
  have HG0 : Hid (W0.heap[w.heap.size]? = some (.cells #[.int .i64 xc, .int .i64 xi, .int .i64 xa, .int .i64 xt, lv] 51 (0, 0))) := by
    unfold Hid; rw [hW0]; exact (Below.heap_alloc _ _ _ (by simp)).trans (heap_alloc_new w _)
  have HR0 : Hid (GReply W0 (w.heap.size + 1)) := by
    unfold Hid; rw [hW0]
    have := GReply.new (w.alloc (.cells #[.int .i64 xc, .int .i64 xi, .int .i64 xa, .int .i64 xt, lv] 51))
    simpa using this
  have CP := kplace_any lv ks q W0 B (hv.below hb0 hB) (by omega)
  have HW0 := ghid hW0
  have HV := ghid hv
  have HB0 := ghid hb0
  obtain ⟨lo, lc, rfl, -, hl40, -, hl4⟩ := hv
  clear hb0
  by_cases h1 : q ≤ xa
  · rw [answerD_old (x := ⟨xc, xi, xa, xt, ks⟩) h1]
    simp only
    obtain ⟨n, hne⟩ : ∃ n, n = placeK ks q := ⟨_, rfl⟩
    obtain ⟨tb, htb⟩ : ∃ tb, tb = thereK ks q := ⟨_, rfl⟩
    rw [← hne, ← htb] at CP
    clear hne htb hl4
    go_enter Try.func28, Try.ntmps28
    go_wp2_with fail
    rw [← HW0.out]
    refine CP.mono ?_
    rintro e w1 ⟨rfl, hb1⟩
    have hz1 : w.heap.size + 2 ≤ w1.heap.size := by have := hb1.size; omega
    have hz1' : w.heap.size < w1.heap.size := by omega
    have g1 := (hb1.block w.heap.size (by omega)).trans HG0.out
    have x2 := cell_of_row w1 w.heap.size 2 _ _ _ g1
    have x4 := cell_of_row w1 w.heap.size 4 _ _ _ g1
    simp only [List.getElem?_toArray, List.getElem?_cons_zero, List.getElem?_cons_succ] at x2 x4
    have HR1 := ghid (HR0.out.below hb1 HR0.out.lt)
    have HB1 := ghid (HB0.out.trans (hb1.mono (by omega)))
    obtain ⟨r0, r1, r2, rf⟩ := HR1.out.cells
    have hq1 : w.heap.size + 1 < w1.heap.size := HR1.out.lt
    clear hb1 g1 CP hz0 hW0
    go_wp2
    refine bodyPost_ret (v := .tuple #[.agg #[.int .i64 12, .int .i64 0, .string ⟨#[]⟩], .bool false]) (by simp [results, Try.results28, go_sem, r0, r1, r2]) rfl ?_
    exact ⟨rfl, gbelow3 HB1.out (by omega) _ _ _⟩
  · cases ht : thereK ks q with
    | true =>
      obtain ⟨k, hk, -⟩ := thereK_some ht
      rw [answerD_kept (x := ⟨xc, xi, xa, xt, ks⟩) h1 ht hk]
      simp only
      rw [ht] at CP
      have hlt : placeK ks q < ks.length := (List.getElem?_eq_some_iff.1 hk).1
      obtain ⟨b, off, rfl, hbB, hc⟩ := hl4 (by omega)
      obtain ⟨c0, c1, c2, c3, hs⟩ := hc _ k hk
      obtain ⟨n, hne⟩ : ∃ n, n = placeK ks q := ⟨_, rfl⟩
      rw [← hne] at CP hlt c0 c1 c2 c3
      obtain ⟨es, ec, en, et⟩ := k
      simp only at c0 c1 c2 c3 hs ⊢
      clear hne ht hc hk hl4
      go_enter Try.func28, Try.ntmps28
      go_wp2_with fail
      rw [← HW0.out]
      refine CP.mono ?_
      rintro e w1 ⟨rfl, hb1⟩
      have hz1 : w.heap.size + 2 ≤ w1.heap.size := by have := hb1.size; omega
      have hz1' : w.heap.size < w1.heap.size := by omega
      have g1 := (hb1.block w.heap.size (by omega)).trans HG0.out
      have x2 := cell_of_row w1 w.heap.size 2 _ _ _ g1
      have x4 := cell_of_row w1 w.heap.size 4 _ _ _ g1
      simp only [List.getElem?_toArray, List.getElem?_cons_zero, List.getElem?_cons_succ] at x2 x4
      have HR1 := ghid (HR0.out.below hb1 HR0.out.lt)
      have HB1 := ghid (HB0.out.trans (hb1.mono (by omega)))
      obtain ⟨r0, r1, r2, rf⟩ := HR1.out.cells
      have hq1 : w.heap.size + 1 < w1.heap.size := HR1.out.lt
      clear hb1 g1 CP hz0 hW0
      have key : ∀ o, w1.cell? ⟨b, o, none⟩ = w.cell? ⟨b, o, none⟩ := fun o => HB1.out.cell (p := ⟨b, o, none⟩) (by show b < w.heap.size; omega)
      have f1 := (key _).trans c1
      have f2 := (key _).trans c2
      have f3 := (key _).trans c3
      clear key c0 c1 c2 c3
      go_wp2_with fail
      refine (copyReply_any ec en et _ hs).mono ?_
      rintro e w2 ⟨rfl, hb2⟩
      have HR2 := ghid (HR1.out.below hb2 HR1.out.lt)
      have HB2 := ghid (HB1.out.trans (hb2.mono HB1.out.size))
      obtain ⟨s0, s1, s2, sf⟩ := HR2.out.cells
      have hs2 : w.heap.size + 1 < w2.heap.size := HR2.out.lt
      clear hb2 r0 r1 r2 rf x2 x4 f1 f2 f3
      go_wp2
      refine bodyPost_ret (v := .tuple #[.agg #[.int .i64 ec, .int .i64 en, .string et], .bool false]) (by simp [results, Try.results28, go_sem, s0, s1, s2]) rfl ?_
      exact ⟨rfl, gbelow3 HB2.out (by omega) _ _ _⟩
    | false =>
      rw [ht] at CP
      obtain ⟨n, hne⟩ : ∃ n, n = placeK ks q := ⟨_, rfl⟩
      rw [← hne] at CP
      by_cases h2 : xa + 4 < q
      · rw [answerD_far (x := ⟨xc, xi, xa, xt, ks⟩) h1 ht h2]
        simp only
        clear hne ht hl4
        go_enter Try.func28, Try.ntmps28
        go_wp2_with fail
        rw [← HW0.out]
        refine CP.mono ?_
        rintro e w1 ⟨rfl, hb1⟩
        have hz1 : w.heap.size + 2 ≤ w1.heap.size := by have := hb1.size; omega
        have hz1' : w.heap.size < w1.heap.size := by omega
        have g1 := (hb1.block w.heap.size (by omega)).trans HG0.out
        have x2 := cell_of_row w1 w.heap.size 2 _ _ _ g1
        have x4 := cell_of_row w1 w.heap.size 4 _ _ _ g1
        simp only [List.getElem?_toArray, List.getElem?_cons_zero, List.getElem?_cons_succ] at x2 x4
        have HR1 := ghid (HR0.out.below hb1 HR0.out.lt)
        have HB1 := ghid (HB0.out.trans (hb1.mono (by omega)))
        obtain ⟨r0, r1, r2, rf⟩ := HR1.out.cells
        have hq1 : w.heap.size + 1 < w1.heap.size := HR1.out.lt
        clear hb1 g1 CP hz0 hW0
        go_wp2
        refine bodyPost_ret (v := .tuple #[.agg #[.int .i64 2, .int .i64 0, .string ⟨#[]⟩], .bool false]) (by simp [results, Try.results28, go_sem, r0, r1, r2]) rfl ?_
        exact ⟨rfl, gbelow3 HB1.out (by omega) _ _ _⟩
      · rw [answerD_todo (x := ⟨xc, xi, xa, xt, ks⟩) h1 ht h2]
        simp only
        clear hne ht hl4
        go_enter Try.func28, Try.ntmps28
        go_wp2_with fail
        rw [← HW0.out]
        refine CP.mono ?_
        rintro e w1 ⟨rfl, hb1⟩
        have hz1 : w.heap.size + 2 ≤ w1.heap.size := by have := hb1.size; omega
        have hz1' : w.heap.size < w1.heap.size := by omega
        have g1 := (hb1.block w.heap.size (by omega)).trans HG0.out
        have x2 := cell_of_row w1 w.heap.size 2 _ _ _ g1
        have x4 := cell_of_row w1 w.heap.size 4 _ _ _ g1
        simp only [List.getElem?_toArray, List.getElem?_cons_zero, List.getElem?_cons_succ] at x2 x4
        have HR1 := ghid (HR0.out.below hb1 HR0.out.lt)
        have HB1 := ghid (HB0.out.trans (hb1.mono (by omega)))
        obtain ⟨r0, r1, r2, rf⟩ := HR1.out.cells
        have hq1 : w.heap.size + 1 < w1.heap.size := HR1.out.lt
        clear hb1 g1 CP hz0 hW0
        go_wp2
        refine bodyPost_ret (v := .tuple #[.agg #[.int .i64 0, .int .i64 0, .string ⟨#[]⟩], .bool true]) (by simp [results, Try.results28, go_sem, r0, r1, r2]) rfl ?_
        exact ⟨rfl, gbelow3 HB1.out (by omega) _ _ _⟩
end Go.Proofs.Ytmcdbdcabiccnaf
