/- The place of a call's reply among its results; sessions of the call's own beside it; session.answer: what a call is answered without being done (joined by program) -/
import Derived.Test.YtijilhbdbeajjaaGreatDoorTT16
import Derived.Test.YtijilhbdbeajjaaGreatDoorTT18
import Derived.Test.YtijilhbdbeajjaaGreatDoorTT17
namespace Go.Proofs.YtijilhbdbeajjaaGreatDoor

open Go.RowKit

/-- An empty reply lies in the block b. -/
def GReply (w : World) (b : Nat) : Prop := w.heap[b]? = some (.cells #[.int .i64 0, .int .i64 0, .string ⟨#[]⟩] 73 (0, 0))

theorem GReply.cells {w : World} {b : Nat} (h : GReply w b) : w.cell? ⟨b, 0, none⟩ = some (.int .i64 0) ∧ w.cell? ⟨b, 1, none⟩ = some (.int .i64 0) ∧ w.cell? ⟨b, 2, none⟩ = some (.string ⟨#[]⟩) ∧ ∀ j, w.frozen? ⟨b, j, none⟩ = false :=
  ⟨cell_of_row w b 0 _ _ _ h, cell_of_row w b 1 _ _ _ h, cell_of_row w b 2 _ _ _ h, fun j => frozen_of_row w b j _ _ h⟩

theorem GReply.below {w w' : World} {b : Nat} (h : GReply w b) {B : Nat} (hb : Below B w w') (hB : b < B) : GReply w' b := (hb.block b hB).trans h

theorem GReply.touch {w w' : World} {b : Nat} {S : Nat → Prop} (h : GReply w b) (hb : TouchG w w' S) (hS : ¬ S b) : GReply w' b := (hb.block b (lt_of_block h) hS).trans h

theorem GReply.lt {w : World} {b : Nat} (h : GReply w b) : b < w.heap.size := lt_of_block h

theorem GReply.new (w : World) : GReply (w.alloc (.cells #[.int .i64 0, .int .i64 0, .string ⟨#[]⟩] 73)) w.heap.size := heap_alloc_new w _

theorem gbelow3 {B : Nat} {w w' : World} (h : Below B w w') {b : Nat} (hb : B ≤ b) (x y z : Value) : Below B w (((w'.setCell ⟨b, 0, none⟩ x).setCell ⟨b, 1, none⟩ y).setCell ⟨b, 2, none⟩ z) :=
  ((h.setCell (by simpa using hb) x).setCell (by simpa using hb) y).setCell (by simpa using hb) z

/-- What lies above is left by three stores below. -/
theorem OwnS.low3 {w : World} {base : Nat} {v : Value} {rs : List (SessD × Value)} (h : OwnS w base v rs) {b : Nat} (hb : b < base) (x y z : Value) : OwnS (((w.setCell ⟨b, 0, none⟩ x).setCell ⟨b, 1, none⟩ y).setCell ⟨b, 2, none⟩ z) base v rs := by
  have key : ∀ c, base ≤ c → (((w.setCell ⟨b, 0, none⟩ x).setCell ⟨b, 1, none⟩ y).setCell ⟨b, 2, none⟩ z).heap[c]? = w.heap[c]? := fun c hc => by
    rw [heap_setCell_other _ _ _ _ (by simp; omega), heap_setCell_other _ _ _ _ (by simp; omega), heap_setCell_other _ _ _ _ (by simp; omega)]
  exact h.keep (fun c hc => key c (h.row.lt c hc).1) (fun c hc => key c (h.reps.lt hc).1)

/-- Sessions of the call's own, behind the stores of its reply, and draws. -/
theorem OwnS.out3 {w : World} {base : Nat} {v : Value} {rs : List (SessD × Value)} (h : OwnS w base v rs) {b : Nat} (hb : b < base) (x y z : Value) : SessR (((w.setCell ⟨b, 0, none⟩ x).setCell ⟨b, 1, none⟩ y).setCell ⟨b, 2, none⟩ z) (((w.setCell ⟨b, 0, none⟩ x).setCell ⟨b, 1, none⟩ y).setCell ⟨b, 2, none⟩ z).heap.size v (rs.map (·.1)) :=
  (h.low3 hb x y z).reads (Nat.le_refl _)

end Go.Proofs.YtijilhbdbeajjaaGreatDoor

namespace Go.Proofs.YtijilhbdbeajjaaGreatDoor

open Go.RowKit

theorem answerD_old {x : SessD} {q : Int} (h : q ≤ x.acked) : answerD x q = (⟨12, 0, ⟨#[]⟩⟩, false) := by unfold answerD; rw [if_pos h]

theorem answerD_kept {x : SessD} {q : Int} {k : KeptD} (h : ¬ q ≤ x.acked) (ht : thereK x.replies q = true) (hk : x.replies[placeK x.replies q]? = some k) : answerD x q = (⟨k.code, k.n, k.text⟩, false) := by unfold answerD; rw [if_neg h, ht, hk]

theorem answerD_far {x : SessD} {q : Int} (h : ¬ q ≤ x.acked) (ht : thereK x.replies q = false) (h2 : x.acked + 4 < q) : answerD x q = (⟨2, 0, ⟨#[]⟩⟩, false) := by unfold answerD; rw [if_neg h, ht]; simp [h2]

theorem answerD_todo {x : SessD} {q : Int} (h : ¬ q ≤ x.acked) (ht : thereK x.replies q = false) (h2 : ¬ x.acked + 4 < q) : answerD x q = (⟨0, 0, ⟨#[]⟩⟩, true) := by unfold answerD; rw [if_neg h, ht]; simp [h2]

theorem thereK_some {ks : List KeptD} {q : Int} (ht : thereK ks q = true) : ∃ k, ks[placeK ks q]? = some k ∧ k.seq = q := by
  unfold thereK at ht
  cases h : ks[placeK ks q]? with
  | none => rw [h] at ht; cases ht
  | some x => rw [h] at ht; exact ⟨x, rfl, by simpa using ht⟩

set_option maxRecDepth 100000 in
set_option maxHeartbeats 3200000 in
theorem answer_any (xc xi xa xt : Int) (lv : Value) (ks : List KeptD) (q : Int) (w : World) (B : Nat) (hv : KeptsR w B lv ks) (hB : B ≤ w.heap.size) (ha0 : 0 ≤ xa) (ha1 : xa ≤ 1048576) :
    Calls Tryz.prog 57 #[.agg #[.int .i64 xc, .int .i64 xi, .int .i64 xa, .int .i64 xt, lv], .int .i64 q] w fun e w' => e = .returned (.tuple #[.agg #[.int .i64 (answerD ⟨xc, xi, xa, xt, ks⟩ q).1.code, .int .i64 (answerD ⟨xc, xi, xa, xt, ks⟩ q).1.n, .string (answerD ⟨xc, xi, xa, xt, ks⟩ q).1.text], .bool (answerD ⟨xc, xi, xa, xt, ks⟩ q).2]) ∧ Below w.heap.size w w' := by
  obtain ⟨W0, hW0⟩ : ∃ W0, W0 = (w.alloc (.cells #[.int .i64 xc, .int .i64 xi, .int .i64 xa, .int .i64 xt, lv] 121)).alloc (.cells #[.int .i64 0, .int .i64 0, .string ⟨#[]⟩] 73) := ⟨_, rfl⟩
  have hb0 : Below w.heap.size w W0 := by rw [hW0]; exact ((Below.refl _ _).alloc (Nat.le_refl _) _).alloc (by simp) _
  have hz0 : W0.heap.size = w.heap.size + 2 := by rw [hW0]; simp
  have HG0 : Hid (W0.heap[w.heap.size]? = some (.cells #[.int .i64 xc, .int .i64 xi, .int .i64 xa, .int .i64 xt, lv] 121 (0, 0))) := by
    unfold Hid; rw [hW0]; exact (Below.heap_alloc _ _ _ (by simp)).trans (heap_alloc_new w _)
  have HR0 : Hid (GReply W0 (w.heap.size + 1)) := by
    unfold Hid; rw [hW0]
    have := GReply.new (w.alloc (.cells #[.int .i64 xc, .int .i64 xi, .int .i64 xa, .int .i64 xt, lv] 121))
    simpa using this
  have CP := kplace_any lv ks q W0 B (hv.below hb0 hB) (by omega)
  have HW0 := ghid hW0
  have HV := ghid hv
  have HB0 := ghid hb0
  obtain ⟨lo, lc, rfl, -, hl40, -, hl4⟩ := hv
  clear hb0
  by_cases h1 : q ≤ xa
  · rw [answerD_old (x := ⟨xc, xi, xa, xt, ks⟩) h1]
    simp only
    obtain ⟨n, hne⟩ : ∃ n, n = placeK ks q := ⟨_, rfl⟩
    obtain ⟨tb, htb⟩ : ∃ tb, tb = thereK ks q := ⟨_, rfl⟩
    rw [← hne, ← htb] at CP
    clear hne htb hl4
    go_enter Tryz.func57, Tryz.ntmps57
    go_wp2_with fail
    rw [← HW0.out]
    refine CP.mono ?_
    rintro e w1 ⟨rfl, hb1⟩
    have hz1 : w.heap.size + 2 ≤ w1.heap.size := by have := hb1.size; omega
    have hz1' : w.heap.size < w1.heap.size := by omega
    have g1 := (hb1.block w.heap.size (by omega)).trans HG0.out
    have x2 := cell_of_row w1 w.heap.size 2 _ _ _ g1
    have x4 := cell_of_row w1 w.heap.size 4 _ _ _ g1
    simp only [List.getElem?_toArray, List.getElem?_cons_zero, List.getElem?_cons_succ] at x2 x4
    have HR1 := ghid (HR0.out.below hb1 HR0.out.lt)
    have HB1 := ghid (HB0.out.trans (hb1.mono (by omega)))
    obtain ⟨r0, r1, r2, rf⟩ := HR1.out.cells
    have hq1 : w.heap.size + 1 < w1.heap.size := HR1.out.lt
    clear hb1 g1 CP hz0 hW0
    go_wp2
    refine bodyPost_ret (v := .tuple #[.agg #[.int .i64 12, .int .i64 0, .string ⟨#[]⟩], .bool false]) (by simp [results, Tryz.results57, go_sem, r0, r1, r2]) rfl ?_
    exact ⟨rfl, gbelow3 HB1.out (by omega) _ _ _⟩
  · cases ht : thereK ks q with
    | true =>
      obtain ⟨k, hk, -⟩ := thereK_some ht
      rw [answerD_kept (x := ⟨xc, xi, xa, xt, ks⟩) h1 ht hk]
      simp only
      rw [ht] at CP
      have hlt : placeK ks q < ks.length := (List.getElem?_eq_some_iff.1 hk).1
      obtain ⟨b, off, rfl, hbB, hc⟩ := hl4 (by omega)
      obtain ⟨c0, c1, c2, c3, hs, -⟩ := hc _ k hk
      obtain ⟨n, hne⟩ : ∃ n, n = placeK ks q := ⟨_, rfl⟩
      rw [← hne] at CP hlt c0 c1 c2 c3
      obtain ⟨es, ec, en, et⟩ := k
      simp only at c0 c1 c2 c3 hs ⊢
      clear hne ht hc hk hl4
      go_enter Tryz.func57, Tryz.ntmps57
      go_wp2_with fail
      rw [← HW0.out]
      refine CP.mono ?_
      rintro e w1 ⟨rfl, hb1⟩
      have hz1 : w.heap.size + 2 ≤ w1.heap.size := by have := hb1.size; omega
      have hz1' : w.heap.size < w1.heap.size := by omega
      have g1 := (hb1.block w.heap.size (by omega)).trans HG0.out
      have x2 := cell_of_row w1 w.heap.size 2 _ _ _ g1
      have x4 := cell_of_row w1 w.heap.size 4 _ _ _ g1
      simp only [List.getElem?_toArray, List.getElem?_cons_zero, List.getElem?_cons_succ] at x2 x4
      have HR1 := ghid (HR0.out.below hb1 HR0.out.lt)
      have HB1 := ghid (HB0.out.trans (hb1.mono (by omega)))
      obtain ⟨r0, r1, r2, rf⟩ := HR1.out.cells
      have hq1 : w.heap.size + 1 < w1.heap.size := HR1.out.lt
      clear hb1 g1 CP hz0 hW0
      have key : ∀ o, w1.cell? ⟨b, o, none⟩ = w.cell? ⟨b, o, none⟩ := fun o => HB1.out.cell (p := ⟨b, o, none⟩) (by show b < w.heap.size; omega)
      have f1 := (key _).trans c1
      have f2 := (key _).trans c2
      have f3 := (key _).trans c3
      clear key c0 c1 c2 c3
      go_wp2_with fail
      refine (copyReply_any ec en et _ hs).mono ?_
      rintro e w2 ⟨rfl, hb2⟩
      have HR2 := ghid (HR1.out.below hb2 HR1.out.lt)
      have HB2 := ghid (HB1.out.trans (hb2.mono HB1.out.size))
      obtain ⟨s0, s1, s2, sf⟩ := HR2.out.cells
      have hs2 : w.heap.size + 1 < w2.heap.size := HR2.out.lt
      clear hb2 r0 r1 r2 rf x2 x4 f1 f2 f3
      go_wp2
      refine bodyPost_ret (v := .tuple #[.agg #[.int .i64 ec, .int .i64 en, .string et], .bool false]) (by simp [results, Tryz.results57, go_sem, s0, s1, s2]) rfl ?_
      exact ⟨rfl, gbelow3 HB2.out (by omega) _ _ _⟩
    | false =>
      rw [ht] at CP
      obtain ⟨n, hne⟩ : ∃ n, n = placeK ks q := ⟨_, rfl⟩
      rw [← hne] at CP
      by_cases h2 : xa + 4 < q
      · rw [answerD_far (x := ⟨xc, xi, xa, xt, ks⟩) h1 ht h2]
        simp only
        clear hne ht hl4
        go_enter Tryz.func57, Tryz.ntmps57
        go_wp2_with fail
        rw [← HW0.out]
        refine CP.mono ?_
        rintro e w1 ⟨rfl, hb1⟩
        have hz1 : w.heap.size + 2 ≤ w1.heap.size := by have := hb1.size; omega
        have hz1' : w.heap.size < w1.heap.size := by omega
        have g1 := (hb1.block w.heap.size (by omega)).trans HG0.out
        have x2 := cell_of_row w1 w.heap.size 2 _ _ _ g1
        have x4 := cell_of_row w1 w.heap.size 4 _ _ _ g1
        simp only [List.getElem?_toArray, List.getElem?_cons_zero, List.getElem?_cons_succ] at x2 x4
        have HR1 := ghid (HR0.out.below hb1 HR0.out.lt)
        have HB1 := ghid (HB0.out.trans (hb1.mono (by omega)))
        obtain ⟨r0, r1, r2, rf⟩ := HR1.out.cells
        have hq1 : w.heap.size + 1 < w1.heap.size := HR1.out.lt
        clear hb1 g1 CP hz0 hW0
        go_wp2
        refine bodyPost_ret (v := .tuple #[.agg #[.int .i64 2, .int .i64 0, .string ⟨#[]⟩], .bool false]) (by simp [results, Tryz.results57, go_sem, r0, r1, r2]) rfl ?_
        exact ⟨rfl, gbelow3 HB1.out (by omega) _ _ _⟩
      · rw [answerD_todo (x := ⟨xc, xi, xa, xt, ks⟩) h1 ht h2]
        simp only
        clear hne ht hl4
        go_enter Tryz.func57, Tryz.ntmps57
        go_wp2_with fail
        rw [← HW0.out]
        refine CP.mono ?_
        rintro e w1 ⟨rfl, hb1⟩
        have hz1 : w.heap.size + 2 ≤ w1.heap.size := by have := hb1.size; omega
        have hz1' : w.heap.size < w1.heap.size := by omega
        have g1 := (hb1.block w.heap.size (by omega)).trans HG0.out
        have x2 := cell_of_row w1 w.heap.size 2 _ _ _ g1
        have x4 := cell_of_row w1 w.heap.size 4 _ _ _ g1
        simp only [List.getElem?_toArray, List.getElem?_cons_zero, List.getElem?_cons_succ] at x2 x4
        have HR1 := ghid (HR0.out.below hb1 HR0.out.lt)
        have HB1 := ghid (HB0.out.trans (hb1.mono (by omega)))
        obtain ⟨r0, r1, r2, rf⟩ := HR1.out.cells
        have hq1 : w.heap.size + 1 < w1.heap.size := HR1.out.lt
        clear hb1 g1 CP hz0 hW0
        go_wp2
        refine bodyPost_ret (v := .tuple #[.agg #[.int .i64 0, .int .i64 0, .string ⟨#[]⟩], .bool true]) (by simp [results, Tryz.results57, go_sem, r0, r1, r2]) rfl ?_
        exact ⟨rfl, gbelow3 HB1.out (by omega) _ _ _⟩

end Go.Proofs.YtijilhbdbeajjaaGreatDoor
