/- The document's repliesMay and SessionsFault. -/
import Derived.Test.YtkjahjknmfjmkafSessForm
import Derived.Test.YtkjahjknmfjmkafRefIn
import Derived.Deep.QuietTactic
import Derived.BigQuiet
namespace Go.Proofs.Ytkjahjknmfjmkaf
open Go.RowKit

theorem in_no (n a b : Int) (w : World) (h : n < a ∨ b < n) :
    Calls Try.prog 32 #[.int .i64 n, .int .i64 a, .int .i64 b] w fun e w' => e = .returned (.bool false) ∧ w' = w := by
  rcases h with h | h
  · exact in_low n a b w h
  · exact in_high n a b w h

set_option maxRecDepth 100000 in
set_option maxHeartbeats 3200000 in
theorem repliesMay_any (c d a t : Int) (lv : Value) (ks : List KeptD) (w : World) (B : Nat) (hv : KeptsR w B lv ks) (hB : B ≤ w.heap.size) (ha0 : 0 ≤ a) (ha1 : a ≤ 1048576) :
    Calls Try.prog 37 #[.agg #[.int .i64 c, .int .i64 d, .int .i64 a, .int .i64 t, lv]] w fun e w' => e = .returned (.bool (formFrom a a ks)) ∧ Below w.heap.size w w' := by
  obtain ⟨ao, cap, rfl, h1, h2, h3, h4⟩ := hv
  obtain ⟨W1, hW1⟩ : ∃ W1, W1 = w.alloc (.cells #[.int .i64 c, .int .i64 d, .int .i64 a, .int .i64 t, .slice ao ks.length cap] 57) := ⟨_, rfl⟩
  have hb0 : Below w.heap.size w W1 := by rw [hW1]; exact (Below.refl _ _).alloc (Nat.le_refl _) _
  have hg0 : W1.heap[w.heap.size]? = some (.cells #[.int .i64 c, .int .i64 d, .int .i64 a, .int .i64 t, .slice ao ks.length cap] 57 (0, 0)) := by rw [hW1]; exact heap_alloc_new w _
  have hz0 : W1.heap.size = w.heap.size + 1 := by rw [hW1]; simp
  have HB0 := ghid hb0
  have HG0 := ghid hg0
  go_enter Try.func37, Try.ntmps37
  go_wp2
  rw [← hW1]
  clear hW1 hb0 hg0
  go_loopw [3, 4] (fun s i wr => ∃ (k : Nat) (hd : Int), k ≤ ks.length ∧ s = .int .i64 hd ∧ i = .int .i64 k ∧ Hid (formFrom a hd (ks.drop k) = formFrom a a ks) ∧ a ≤ hd ∧ hd ≤ a + 4 ∧ Below (w.heap.size + 1) W1 wr) (fun _ i _ => ks.length - (intOf i).toNat)
  case atStart => exact ⟨0, a, Nat.zero_le _, rfl, rfl, by simp [Hid], Int.le_refl _, by omega, Below.refl _ _⟩
  case round =>
    obtain ⟨k, hd, hk, rfl, rfl, HF, hd1, hd2, hb⟩ := hrel
    have hsz : w.heap.size + 1 ≤ wr.heap.size := by have := hb.size; omega
    have hba : Below w.heap.size w wr := HB0.out.trans (hb.mono (by omega))
    have HBA := ghid hba
    have xa : wr.cell? ⟨w.heap.size, 2, none⟩ = some (.int .i64 a) := cell_of_row wr w.heap.size 2 _ _ _ ((hb.block _ (by omega)).trans HG0.out)
    have xl : wr.cell? ⟨w.heap.size, 4, none⟩ = some (.slice ao ks.length cap) := cell_of_row wr w.heap.size 4 _ _ _ ((hb.block _ (by omega)).trans HG0.out)
    by_cases hlt : k < ks.length
    · obtain ⟨b, off, rfl, hbB, hc⟩ := h4 (by omega)
      obtain ⟨y, hy⟩ : ∃ y, ks[k]? = some y := ⟨_, List.getElem?_eq_getElem hlt⟩
      obtain ⟨c0, c1, c2, c3, hs⟩ := (hc k y hy).below (by omega) hba
      have HD : Hid (formFrom a hd (y :: ks.drop (k + 1)) = formFrom a a ks) := by unfold Hid; rw [← kdrop hy]; exact HF.out
      have HB := ghid hb
      clear hy hc h4 HF hb hba
      have hbr : b < wr.heap.size := by omega
      have hwr : w.heap.size < wr.heap.size := by omega
      obtain ⟨ys, yc, yn, yt⟩ := y
      simp only at c0 c1 c2 c3 hs
      by_cases q1 : hd + 1 ≤ ys ∧ ys ≤ a + 4
      · obtain ⟨q2, q3⟩ := q1
        by_cases q4 : replyB yc yn yt.size = true
        · have HN : Hid (formFrom a ys (ks.drop (k + 1)) = formFrom a a ks) := by
            have := HD.out
            unfold Hid
            rw [formFrom_cons] at this
            simp only [keptB, q4, decide_eq_true q2, decide_eq_true q3, Bool.true_and] at this
            exact this
          obtain ⟨m1, m2, m3, m4, m5⟩ := replyB_iff.1 q4
          clear q4 HD
          go_wp2_with fail
          refine (in_yes ys (hd + 1) (a + 4) _ q2 q3).mono ?_
          rintro e w1 ⟨rfl, hw⟩
          subst hw
          go_wp2_with fail
          refine (in_yes yc 0 15 _ m1 m2).mono ?_
          rintro e w1 ⟨rfl, hw⟩
          subst hw
          go_wp2_with fail
          refine (in_yes yn 0 1073741824 _ m3 m4).mono ?_
          rintro e w1 ⟨rfl, hw⟩
          subst hw
          go_wp2
          go_roundw
          case rel => exact ⟨k + 1, ys, by omega, rfl, by go_num, HN, by omega, by omega, HB.out.trans ((Below.refl _ _).alloc (by omega) _)⟩
          case measure => simp [intOf]; omega
        · have q5 : replyB yc yn yt.size = false := by simpa using q4
          have HN : Hid (formFrom a a ks = false) := by
            have := HD.out
            unfold Hid
            rw [formFrom_cons] at this
            simp only [keptB, q5, decide_eq_true q2, decide_eq_true q3, Bool.true_and, Bool.false_and] at this
            exact this.symm
          have q6 : ¬ (0 ≤ yc ∧ yc ≤ 15 ∧ 0 ≤ yn ∧ yn ≤ 1073741824 ∧ yt.size ≤ 12) := fun e => q4 (replyB_iff.2 e)
          clear q4 q5 HD
          by_cases m1 : 0 ≤ yc ∧ yc ≤ 15
          · by_cases m2 : 0 ≤ yn ∧ yn ≤ 1073741824
            · have m3 : ¬ yt.size ≤ 12 := by omega
              clear q6
              go_wp2_with fail
              refine (in_yes ys (hd + 1) (a + 4) _ q2 q3).mono ?_
              rintro e w1 ⟨rfl, hw⟩
              subst hw
              go_wp2_with fail
              refine (in_yes yc 0 15 _ m1.1 m1.2).mono ?_
              rintro e w1 ⟨rfl, hw⟩
              subst hw
              go_wp2_with fail
              refine (in_yes yn 0 1073741824 _ m2.1 m2.2).mono ?_
              rintro e w1 ⟨rfl, hw⟩
              subst hw
              go_wp2
              go_ret
              exact ⟨by rw [HN.out]; rfl, HBA.out.trans ((Below.refl _ _).alloc (by omega) _)⟩
            · have m3 : yn < 0 ∨ 1073741824 < yn := by omega
              clear q6 m2
              go_wp2_with fail
              refine (in_yes ys (hd + 1) (a + 4) _ q2 q3).mono ?_
              rintro e w1 ⟨rfl, hw⟩
              subst hw
              go_wp2_with fail
              refine (in_yes yc 0 15 _ m1.1 m1.2).mono ?_
              rintro e w1 ⟨rfl, hw⟩
              subst hw
              go_wp2_with fail
              refine (in_no yn 0 1073741824 _ m3).mono ?_
              rintro e w1 ⟨rfl, hw⟩
              subst hw
              go_wp2
              go_ret
              exact ⟨by rw [HN.out]; rfl, HBA.out.trans ((Below.refl _ _).alloc (by omega) _)⟩
          · have m3 : yc < 0 ∨ 15 < yc := by omega
            clear q6 m1
            go_wp2_with fail
            refine (in_yes ys (hd + 1) (a + 4) _ q2 q3).mono ?_
            rintro e w1 ⟨rfl, hw⟩
            subst hw
            go_wp2_with fail
            refine (in_no yc 0 15 _ m3).mono ?_
            rintro e w1 ⟨rfl, hw⟩
            subst hw
            go_wp2
            go_ret
            exact ⟨by rw [HN.out]; rfl, HBA.out.trans ((Below.refl _ _).alloc (by omega) _)⟩
      · have HN : Hid (formFrom a a ks = false) := by
          have := HD.out
          unfold Hid
          rw [formFrom_cons] at this
          by_cases q2 : hd + 1 ≤ ys
          · have q3 : ¬ ys ≤ a + 4 := fun e => q1 ⟨q2, e⟩
            simp only [decide_eq_true q2, decide_eq_false q3, Bool.true_and, Bool.false_and] at this
            exact this.symm
          · simp only [decide_eq_false q2, Bool.false_and] at this
            exact this.symm
        have q2 : ys < hd + 1 ∨ a + 4 < ys := by omega
        clear HD q1
        go_wp2_with fail
        refine (in_no ys (hd + 1) (a + 4) _ q2).mono ?_
        rintro e w1 ⟨rfl, hw⟩
        subst hw
        go_wp2
        go_ret
        exact ⟨by rw [HN.out]; rfl, HBA.out.trans ((Below.refl _ _).alloc (by omega) _)⟩
    · have HN : Hid (formFrom a a ks = true) := by
        have := HF.out
        unfold Hid
        rw [List.drop_of_length_le (by omega), formFrom_nil] at this
        exact this.symm
      have hwr : w.heap.size < wr.heap.size := by omega
      clear HF
      go_wp2
      go_ret
      exact ⟨by rw [HN.out]; rfl, hba⟩
end Go.Proofs.Ytkjahjknmfjmkaf
