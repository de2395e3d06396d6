/- session.within, isClient, inRange, mayBeKept, inForm, Check; session.inForm, session.Check (joined by program) -/
import Derived.Test.YtpcacaohknkdlagSE02
namespace Go.Proofs.Ytpcacaohknkdlag

open Go.RowKit

theorem sret_bool {a b : Bool} (h : a = b) : Ending.returned (.bool a) = .returned (.bool b) := by rw [h]

theorem swithin_yes (n a b : Int) (w : World) (h1 : a ≤ n) (h2 : n ≤ b) :
    Calls Try.prog 62 #[.int .i64 n, .int .i64 a, .int .i64 b] w fun e w' => e = .returned (.bool true) ∧ w' = w := by
  go_enter Try.func62, Try.ntmps62
  go_wp2
  go_ret
  exact ⟨rfl, rfl⟩

theorem swithin_no (n a b : Int) (w : World) (h : n < a ∨ b < n) :
    Calls Try.prog 62 #[.int .i64 n, .int .i64 a, .int .i64 b] w fun e w' => e = .returned (.bool false) ∧ w' = w := by
  by_cases h1 : a ≤ n
  · have h2 : ¬ n ≤ b := by omega
    go_enter Try.func62, Try.ntmps62
    go_wp2
    go_ret
    exact ⟨rfl, rfl⟩
  · go_enter Try.func62, Try.ntmps62
    go_wp2
    go_ret
    exact ⟨rfl, rfl⟩

theorem sclient_yes (n : Int) (w : World) (h1 : 1 ≤ n) (h2 : n ≤ 9) :
    Calls Try.prog 82 #[.int .i64 n] w fun e w' => e = .returned (.bool true) ∧ w' = w := by
  go_enter Try.func82, Try.ntmps82
  go_wp2_with fail
  refine (swithin_yes n 1 9 _ h1 h2).mono ?_
  rintro e w' ⟨rfl, hw⟩
  subst hw
  go_wp2
  go_ret
  exact ⟨rfl, rfl⟩

theorem sclient_no (n : Int) (w : World) (h : n < 1 ∨ 9 < n) :
    Calls Try.prog 82 #[.int .i64 n] w fun e w' => e = .returned (.bool false) ∧ w' = w := by
  go_enter Try.func82, Try.ntmps82
  go_wp2_with fail
  refine (swithin_no n 1 9 _ h).mono ?_
  rintro e w' ⟨rfl, hw⟩
  subst hw
  go_wp2
  go_ret
  exact ⟨rfl, rfl⟩

set_option maxHeartbeats 800000 in
theorem inRange_yes (c d a t i : Int) (lv : Value) (w : World) (h : (1 ≤ c ∧ c ≤ 9) ∧ (0 ≤ a ∧ a ≤ 1048576) ∧ (1 ≤ d ∧ d ≤ i) ∧ d ≤ t ∧ t ≤ i) :
    Calls Try.prog 63 #[.agg #[.int .i64 c, .int .i64 d, .int .i64 a, .int .i64 t, lv], .int .i64 i] w fun e w' => e = .returned (.bool true) ∧ Below w.heap.size w w' := by
  obtain ⟨⟨h1, h2⟩, ⟨h3, h4⟩, ⟨h5, h6⟩, h7, h8⟩ := h
  go_enter Try.func63, Try.ntmps63
  go_wp2_with fail
  refine (sclient_yes c _ h1 h2).mono ?_
  rintro e w1 ⟨rfl, hw⟩
  subst hw
  go_wp2_with fail
  refine (swithin_yes a 0 1048576 _ h3 h4).mono ?_
  rintro e w1 ⟨rfl, hw⟩
  subst hw
  go_wp2_with fail
  refine (swithin_yes d 1 i _ h5 h6).mono ?_
  rintro e w1 ⟨rfl, hw⟩
  subst hw
  go_wp2_with fail
  refine (swithin_yes t d i _ h7 h8).mono ?_
  rintro e w1 ⟨rfl, hw⟩
  subst hw
  go_wp2
  go_ret
  exact ⟨rfl, (Below.refl _ _).alloc (Nat.le_refl _) _⟩

set_option maxHeartbeats 1600000 in
theorem inRange_no (c d a t i : Int) (lv : Value) (w : World) (h : ¬ ((1 ≤ c ∧ c ≤ 9) ∧ (0 ≤ a ∧ a ≤ 1048576) ∧ (1 ≤ d ∧ d ≤ i) ∧ d ≤ t ∧ t ≤ i)) :
    Calls Try.prog 63 #[.agg #[.int .i64 c, .int .i64 d, .int .i64 a, .int .i64 t, lv], .int .i64 i] w fun e w' => e = .returned (.bool false) ∧ Below w.heap.size w w' := by
  by_cases k1 : 1 ≤ c ∧ c ≤ 9
  · obtain ⟨h1, h2⟩ := k1
    by_cases k2 : 0 ≤ a ∧ a ≤ 1048576
    · obtain ⟨h3, h4⟩ := k2
      by_cases k3 : 1 ≤ d ∧ d ≤ i
      · obtain ⟨h5, h6⟩ := k3
        have h7 : t < d ∨ i < t := by omega
        clear h
        go_enter Try.func63, Try.ntmps63
        go_wp2_with fail
        refine (sclient_yes c _ h1 h2).mono ?_
        rintro e w1 ⟨rfl, hw⟩
        subst hw
        go_wp2_with fail
        refine (swithin_yes a 0 1048576 _ h3 h4).mono ?_
        rintro e w1 ⟨rfl, hw⟩
        subst hw
        go_wp2_with fail
        refine (swithin_yes d 1 i _ h5 h6).mono ?_
        rintro e w1 ⟨rfl, hw⟩
        subst hw
        go_wp2_with fail
        refine (swithin_no t d i _ h7).mono ?_
        rintro e w1 ⟨rfl, hw⟩
        subst hw
        go_wp2
        go_ret
        exact ⟨rfl, (Below.refl _ _).alloc (Nat.le_refl _) _⟩
      · have h5 : d < 1 ∨ i < d := by omega
        clear h k3
        go_enter Try.func63, Try.ntmps63
        go_wp2_with fail
        refine (sclient_yes c _ h1 h2).mono ?_
        rintro e w1 ⟨rfl, hw⟩
        subst hw
        go_wp2_with fail
        refine (swithin_yes a 0 1048576 _ h3 h4).mono ?_
        rintro e w1 ⟨rfl, hw⟩
        subst hw
        go_wp2_with fail
        refine (swithin_no d 1 i _ h5).mono ?_
        rintro e w1 ⟨rfl, hw⟩
        subst hw
        go_wp2
        go_ret
        exact ⟨rfl, (Below.refl _ _).alloc (Nat.le_refl _) _⟩
    · have h3 : a < 0 ∨ 1048576 < a := by omega
      clear h k2
      go_enter Try.func63, Try.ntmps63
      go_wp2_with fail
      refine (sclient_yes c _ h1 h2).mono ?_
      rintro e w1 ⟨rfl, hw⟩
      subst hw
      go_wp2_with fail
      refine (swithin_no a 0 1048576 _ h3).mono ?_
      rintro e w1 ⟨rfl, hw⟩
      subst hw
      go_wp2
      go_ret
      exact ⟨rfl, (Below.refl _ _).alloc (Nat.le_refl _) _⟩
  · have h1 : c < 1 ∨ 9 < c := by omega
    clear h k1
    go_enter Try.func63, Try.ntmps63
    go_wp2_with fail
    refine (sclient_no c _ h1).mono ?_
    rintro e w1 ⟨rfl, hw⟩
    subst hw
    go_wp2
    go_ret
    exact ⟨rfl, (Below.refl _ _).alloc (Nat.le_refl _) _⟩

set_option maxHeartbeats 800000 in
theorem mayBe_yes (c n : Int) (s : ByteArray) (w : World) (h : replyB c n s.size = true) :
    Calls Try.prog 83 #[.agg #[.int .i64 c, .int .i64 n, .string s]] w fun e w' => e = .returned (.bool true) ∧ Below w.heap.size w w' := by
  obtain ⟨h1, h2, h3, h4, h5⟩ := replyB_iff.1 h
  clear h
  go_enter Try.func83, Try.ntmps83
  go_wp2_with (go_at_call 62; refine (swithin_yes _ _ _ _ h3 h4).mono ?_; rintro e w' ⟨rfl, hw⟩; subst hw)
  go_ret
  exact ⟨sret_bool (a := decide ((s.size : Int) ≤ 12)) (by simp; omega), (Below.refl _ _).alloc (Nat.le_refl _) _⟩

set_option maxHeartbeats 1600000 in
theorem mayBe_no (c n : Int) (s : ByteArray) (w : World) (hs : s.size ≤ 140737488351232) (h : replyB c n s.size = false) :
    Calls Try.prog 83 #[.agg #[.int .i64 c, .int .i64 n, .string s]] w fun e w' => e = .returned (.bool false) ∧ Below w.heap.size w w' := by
  have h' : ¬ (0 ≤ c ∧ c ≤ 15 ∧ 0 ≤ n ∧ n ≤ 1073741824 ∧ s.size ≤ 12) := fun k => by rw [replyB_iff.2 k] at h; cases h
  clear h
  by_cases h1 : 0 ≤ c
  · by_cases h2 : c ≤ 15
    · by_cases k : 0 ≤ n ∧ n ≤ 1073741824
      · obtain ⟨h3, h4⟩ := k
        have h5 : ¬ s.size ≤ 12 := by omega
        clear h'
        go_enter Try.func83, Try.ntmps83
        go_wp2_with (go_at_call 62; refine (swithin_yes _ _ _ _ h3 h4).mono ?_; rintro e w' ⟨rfl, hw⟩; subst hw)
        go_ret
        exact ⟨sret_bool (a := decide ((s.size : Int) ≤ 12)) (by simp; omega), (Below.refl _ _).alloc (Nat.le_refl _) _⟩
      · have h3 : n < 0 ∨ 1073741824 < n := by omega
        clear h' k
        go_enter Try.func83, Try.ntmps83
        go_wp2_with (go_at_call 62; refine (swithin_no _ _ _ _ h3).mono ?_; rintro e w' ⟨rfl, hw⟩; subst hw)
        go_ret
        exact ⟨rfl, (Below.refl _ _).alloc (Nat.le_refl _) _⟩
    · clear h'
      go_enter Try.func83, Try.ntmps83
      go_wp2
      go_ret
      exact ⟨rfl, (Below.refl _ _).alloc (Nat.le_refl _) _⟩
  · clear h'
    go_enter Try.func83, Try.ntmps83
    go_wp2
    go_ret
    exact ⟨rfl, (Below.refl _ _).alloc (Nat.le_refl _) _⟩

end Go.Proofs.Ytpcacaohknkdlag

namespace Go.Proofs.Ytpcacaohknkdlag

open Go.RowKit

theorem kdrop {ks : List KeptD} {k : Nat} {y : KeptD} (h : ks[k]? = some y) : ks.drop k = y :: ks.drop (k + 1) := by
  obtain ⟨hi, he⟩ := List.getElem?_eq_some_iff.1 h
  rw [← he, ← List.drop_eq_getElem_cons hi]

set_option maxRecDepth 100000 in
set_option maxHeartbeats 1600000 in
theorem sinForm_any (c d a t : Int) (lv : Value) (ks : List KeptD) (w : World) (B : Nat) (hv : KeptsR w B lv ks) (hB : B ≤ w.heap.size) (ha0 : 0 ≤ a) (ha1 : a ≤ 1048576) :
    Calls Try.prog 64 #[.agg #[.int .i64 c, .int .i64 d, .int .i64 a, .int .i64 t, lv]] w fun e w' => e = .returned (.bool (formFrom a a ks)) ∧ Below w.heap.size w w' := by
  obtain ⟨ao, cap, rfl, h1, h2, h3, h4⟩ := hv
  obtain ⟨W1, hW1⟩ : ∃ W1, W1 = w.alloc (.cells #[.int .i64 c, .int .i64 d, .int .i64 a, .int .i64 t, .slice ao ks.length cap] 60) := ⟨_, rfl⟩
  have hb0 : Below w.heap.size w W1 := by rw [hW1]; exact (Below.refl _ _).alloc (Nat.le_refl _) _
  have hg0 : W1.heap[w.heap.size]? = some (.cells #[.int .i64 c, .int .i64 d, .int .i64 a, .int .i64 t, .slice ao ks.length cap] 60 (0, 0)) := by rw [hW1]; exact heap_alloc_new w _
  have hz0 : W1.heap.size = w.heap.size + 1 := by rw [hW1]; simp
  have HB0 := ghid hb0
  have HG0 := ghid hg0
  go_enter Try.func64, Try.ntmps64
  go_wp2
  rw [← hW1]
  clear hW1 hb0 hg0
  go_loopw [3, 11] (fun s i wr => ∃ (k : Nat) (hd : Int), k ≤ ks.length ∧ s = .int .i64 hd ∧ i = .int .i64 k ∧ Hid (formFrom a hd (ks.drop k) = formFrom a a ks) ∧ a ≤ hd ∧ hd ≤ a + 4 ∧ Below (w.heap.size + 1) W1 wr) (fun _ i _ => ks.length - (intOf i).toNat)
  case atStart => exact ⟨0, a, Nat.zero_le _, rfl, rfl, by simp [Hid], Int.le_refl _, by omega, Below.refl _ _⟩
  case round =>
    obtain ⟨k, hd, hk, rfl, rfl, HF, hd1, hd2, hb⟩ := hrel
    have hsz : w.heap.size + 1 ≤ wr.heap.size := by have := hb.size; omega
    have hba : Below w.heap.size w wr := HB0.out.trans (hb.mono (by omega))
    have HBA := ghid hba
    by_cases hlt : k < ks.length
    · obtain ⟨b, off, rfl, hbB, hc⟩ := h4 (by omega)
      obtain ⟨y, hy⟩ : ∃ y, ks[k]? = some y := ⟨_, List.getElem?_eq_getElem hlt⟩
      obtain ⟨c0, c1, c2, c3, hs⟩ := (hc k y hy).below (by omega) hba
      have xa : wr.cell? ⟨w.heap.size, 2, none⟩ = some (.int .i64 a) := cell_of_row wr w.heap.size 2 _ _ _ ((hb.block _ (by omega)).trans HG0.out)
      have HD : Hid (formFrom a hd (y :: ks.drop (k + 1)) = formFrom a a ks) := by unfold Hid; rw [← kdrop hy]; exact HF.out
      have HB := ghid hb
      clear hy hc h4 HF hb hba
      have hbr : b < wr.heap.size := by omega
      have hwr : w.heap.size < wr.heap.size := by omega
      obtain ⟨ys, yc, yn, yt⟩ := y
      simp only at c0 c1 c2 c3 hs
      by_cases q1 : hd + 1 ≤ ys ∧ ys ≤ a + 4
      · obtain ⟨q2, q3⟩ := q1
        by_cases q4 : replyB yc yn yt.size = true
        · have HN : Hid (formFrom a ys (ks.drop (k + 1)) = formFrom a a ks) := by
            have := HD.out
            unfold Hid
            rw [formFrom_cons] at this
            simp only [keptB, q4, decide_eq_true q2, decide_eq_true q3, Bool.true_and] at this
            exact this
          have Q4 := ghid q4
          clear q4 HD
          go_wp2_with fail
          refine (swithin_yes ys (hd + 1) (a + 4) _ q2 q3).mono ?_
          rintro e w1 ⟨rfl, hw⟩
          subst hw
          go_wp2_with fail
          refine (mayBe_yes yc yn yt _ Q4.out).mono ?_
          rintro e w1 ⟨rfl, hb1⟩
          obtain ⟨hc1, hf1⟩ := gcell hb1
          have hz1 : wr.heap.size < w1.heap.size := by have := hb1.size; simp at this; omega
          go_wp2
          go_roundw
          case rel => exact ⟨k + 1, ys, by omega, rfl, by go_num, HN, by omega, by omega, (HB.out.trans (((Below.refl _ _).alloc (by omega) _).trans (hb1.mono (by simp; omega))))⟩
          case measure => simp [intOf]; omega
        · have q5 : replyB yc yn yt.size = false := by simpa using q4
          have HN : Hid (formFrom a a ks = false) := by
            have := HD.out
            unfold Hid
            rw [formFrom_cons] at this
            simp only [keptB, q5, decide_eq_true q2, decide_eq_true q3, Bool.true_and, Bool.false_and] at this
            exact this.symm
          have Q5 := ghid q5
          clear q4 q5 HD
          go_wp2_with fail
          refine (swithin_yes ys (hd + 1) (a + 4) _ q2 q3).mono ?_
          rintro e w1 ⟨rfl, hw⟩
          subst hw
          go_wp2_with fail
          refine (mayBe_no yc yn yt _ hs Q5.out).mono ?_
          rintro e w1 ⟨rfl, hb1⟩
          go_wp2
          go_ret
          exact ⟨by rw [HN.out]; rfl, HBA.out.trans (((Below.refl _ _).alloc (by omega) _).trans (hb1.mono (by simp; omega)))⟩
      · have HN : Hid (formFrom a a ks = false) := by
          have := HD.out
          unfold Hid
          rw [formFrom_cons] at this
          by_cases q2 : hd + 1 ≤ ys
          · have q3 : ¬ ys ≤ a + 4 := fun e => q1 ⟨q2, e⟩
            simp only [decide_eq_true q2, decide_eq_false q3, Bool.true_and, Bool.false_and] at this
            exact this.symm
          · simp only [decide_eq_false q2, Bool.false_and] at this
            exact this.symm
        have q2 : ys < hd + 1 ∨ a + 4 < ys := by omega
        clear HD q1
        go_wp2_with fail
        refine (swithin_no ys (hd + 1) (a + 4) _ q2).mono ?_
        rintro e w1 ⟨rfl, hw⟩
        subst hw
        go_wp2
        go_ret
        exact ⟨by rw [HN.out]; rfl, HBA.out.trans ((Below.refl _ _).alloc (by omega) _)⟩
    · have HN : Hid (formFrom a a ks = true) := by
        have := HF.out
        unfold Hid
        rw [List.drop_of_length_le (by omega), formFrom_nil] at this
        exact this.symm
      clear HF
      go_wp2
      go_ret
      exact ⟨by rw [HN.out]; rfl, hba⟩

theorem sdrop {ks : List SessD} {k : Nat} {y : SessD} (h : ks[k]? = some y) : ks.drop k = y :: ks.drop (k + 1) := by
  obtain ⟨hi, he⟩ := List.getElem?_eq_some_iff.1 h
  rw [← he, ← List.drop_eq_getElem_cons hi]

set_option maxRecDepth 100000 in
set_option maxHeartbeats 3200000 in
theorem sessCheck_any (v : Value) (ls : List SessD) (i : Int) (w : World) (B : Nat) (hv : SessR w B v ls) (hB : B ≤ w.heap.size) :
    Calls Try.prog 36 #[v, .int .i64 i] w fun e w' => e = .returned (.int .i64 (checkS ls i)) ∧ Below w.heap.size w w' := by
  obtain ⟨ao, cap, rfl, h1, h2, h3, h4⟩ := hv
  by_cases k1 : 0 ≤ i ∧ i ≤ 1073741824
  · obtain ⟨g1, g2⟩ := k1
    by_cases k2 : 4 < ls.length
    · have e : checkS ls i = 1 := by unfold checkS; rw [if_neg (by omega), if_pos k2]
      rw [e]
      clear e h4
      go_enter Try.func36, Try.ntmps36
      go_wp2_with fail
      refine (swithin_yes i 0 1073741824 _ g1 g2).mono ?_
      rintro e w1 ⟨rfl, hw⟩
      subst hw
      go_wp2
      go_ret
      exact ⟨rfl, Below.refl _ _⟩
    · have e : checkS ls i = checkFromS i 0 ls := by unfold checkS; rw [if_neg (by omega), if_neg k2]
      rw [e]
      clear e
      go_enter Try.func36, Try.ntmps36
      go_wp2_with fail
      refine (swithin_yes i 0 1073741824 _ g1 g2).mono ?_
      rintro e w1 ⟨rfl, hw⟩
      subst hw
      go_wp2
      go_loopw [5, 16] (fun s j wr => ∃ (k : Nat) (hd : Int), k ≤ ls.length ∧ s = .int .i64 hd ∧ j = .int .i64 k ∧ Hid (checkFromS i hd (ls.drop k) = checkFromS i 0 ls) ∧ Below w1.heap.size w1 wr) (fun _ j _ => ls.length - (intOf j).toNat)
      case atStart => exact ⟨0, 0, Nat.zero_le _, rfl, rfl, by simp [Hid], Below.refl _ _⟩
      case round =>
        obtain ⟨k, hd, hk, rfl, rfl, HF, hb⟩ := hrel
        have hsz := hb.size
        by_cases hlt : k < ls.length
        · obtain ⟨b, off, rfl, hbB, hc⟩ := h4 (by omega)
          obtain ⟨y, hy⟩ : ∃ y, ls[k]? = some y := ⟨_, List.getElem?_eq_getElem hlt⟩
          obtain ⟨lv, c0, c1, c2, c3, c4, hl⟩ := (hc k y hy).below (by omega) hb hB
          have HD : Hid (checkFromS i hd (y :: ls.drop (k + 1)) = checkFromS i 0 ls) := by unfold Hid; rw [← sdrop hy]; exact HF.out
          have HB := ghid hb
          have HL := ghid hl
          clear hy hc h4 HF hb
          have hbr : b < wr.heap.size := by omega
          obtain ⟨yc, yi, ya, yl, yk⟩ := y
          obtain ⟨lo, lc, rfl, -⟩ := hl
          simp only at c0 c1 c2 c3 c4 HL
          have hba : Below wr.heap.size wr (wr.alloc (.cells #[.int .i64 yc, .int .i64 yi, .int .i64 ya, .int .i64 yl, .slice lo yk.length lc] 60)) := (Below.refl _ _).alloc (Nat.le_refl _) _
          have HBA := ghid hba
          clear hba
          by_cases q1 : (1 ≤ yc ∧ yc ≤ 9) ∧ (0 ≤ ya ∧ ya ≤ 1048576) ∧ (1 ≤ yi ∧ yi ≤ i) ∧ yi ≤ yl ∧ yl ≤ i
          · have r1 : rangeB ⟨yc, yi, ya, yl, yk⟩ i = true := by rw [rangeB_iff]; simp only; omega
            have C := sinForm_any yc yi ya yl (.slice lo yk.length lc) yk
            cases hf : formFrom ya ya yk with
            | true =>
              have f1 : sformB ⟨yc, yi, ya, yl, yk⟩ = true := hf
              rw [hf] at C
              have HC := ghid C
              clear C hf
              by_cases q3 : yc ≤ hd
              · have HN : Hid (checkFromS i 0 ls = 14) := HD.out.symm.trans (checkFromS_order r1 f1 q3)
                clear HD r1 f1
                go_wp2_with fail
                refine (inRange_yes yc yi ya yl i _ _ q1).mono ?_
                rintro e w2 ⟨rfl, hb2⟩
                obtain ⟨hc2, hf2⟩ := gcell hb2
                have hz2 : wr.heap.size < w2.heap.size := by have := hb2.size; simp at this; omega
                go_wp2_with fail
                refine (HC.out _ B ((HL.out.below HBA.out (by omega)).below hb2 (by simp; omega)) (by omega) q1.2.1.1 q1.2.1.2).mono ?_
                rintro e w3 ⟨rfl, hb3⟩
                obtain ⟨hc3, hf3⟩ := gcell hb3
                have hz3 : w2.heap.size ≤ w3.heap.size := hb3.size
                have hz4 : wr.heap.size < w3.heap.size := by omega
                have HB3 := ghid (HB.out.trans ((HBA.out.mono hsz).trans ((hb2.mono (by simp; omega)).trans (hb3.mono (by omega)))))
                go_wp2
                go_ret
                exact ⟨by rw [HN.out]; rfl, HB3.out⟩
              · have HN : Hid (checkFromS i yc (ls.drop (k + 1)) = checkFromS i 0 ls) := (checkFromS_next r1 f1 q3).symm.trans HD.out
                clear HD r1 f1
                go_wp2_with fail
                refine (inRange_yes yc yi ya yl i _ _ q1).mono ?_
                rintro e w2 ⟨rfl, hb2⟩
                obtain ⟨hc2, hf2⟩ := gcell hb2
                have hz2 : wr.heap.size < w2.heap.size := by have := hb2.size; simp at this; omega
                go_wp2_with fail
                refine (HC.out _ B ((HL.out.below HBA.out (by omega)).below hb2 (by simp; omega)) (by omega) q1.2.1.1 q1.2.1.2).mono ?_
                rintro e w3 ⟨rfl, hb3⟩
                obtain ⟨hc3, hf3⟩ := gcell hb3
                have hz3 : w2.heap.size ≤ w3.heap.size := hb3.size
                have hz4 : wr.heap.size < w3.heap.size := by omega
                have HB3 := ghid (HB.out.trans ((HBA.out.mono hsz).trans ((hb2.mono (by simp; omega)).trans (hb3.mono (by omega)))))
                go_wp2
                go_roundw
                case rel => exact ⟨k + 1, yc, by omega, rfl, by go_num, HN, HB3.out⟩
                case measure => simp [intOf]; omega
            | false =>
              have f1 : sformB ⟨yc, yi, ya, yl, yk⟩ = false := hf
              rw [hf] at C
              have HC := ghid C
              have HN : Hid (checkFromS i 0 ls = 4) := HD.out.symm.trans (checkFromS_form r1 f1)
              clear C hf HD r1 f1
              go_wp2_with fail
              refine (inRange_yes yc yi ya yl i _ _ q1).mono ?_
              rintro e w2 ⟨rfl, hb2⟩
              obtain ⟨hc2, hf2⟩ := gcell hb2
              have hz2 : wr.heap.size < w2.heap.size := by have := hb2.size; simp at this; omega
              go_wp2_with fail
              refine (HC.out _ B ((HL.out.below HBA.out (by omega)).below hb2 (by simp; omega)) (by omega) q1.2.1.1 q1.2.1.2).mono ?_
              rintro e w3 ⟨rfl, hb3⟩
              obtain ⟨hc3, hf3⟩ := gcell hb3
              have hz3 : w2.heap.size ≤ w3.heap.size := hb3.size
              have hz4 : wr.heap.size < w3.heap.size := by omega
              have HB3 := ghid (HB.out.trans ((HBA.out.mono hsz).trans ((hb2.mono (by simp; omega)).trans (hb3.mono (by omega)))))
              go_wp2
              go_ret
              exact ⟨by rw [HN.out]; rfl, HB3.out⟩
          · have r1 : rangeB ⟨yc, yi, ya, yl, yk⟩ i = false := by
              cases h : rangeB ⟨yc, yi, ya, yl, yk⟩ i
              · rfl
              · exact absurd (rangeB_iff.1 h) (by simp only; omega)
            have HN : Hid (checkFromS i 0 ls = 2) := HD.out.symm.trans (checkFromS_range r1)
            clear HD r1
            go_wp2_with fail
            refine (inRange_no yc yi ya yl i _ _ q1).mono ?_
            rintro e w2 ⟨rfl, hb2⟩
            have HB3 := ghid (HB.out.trans ((HBA.out.mono hsz).trans (hb2.mono (by simp; omega))))
            go_wp2
            go_ret
            exact ⟨by rw [HN.out]; rfl, HB3.out⟩
        · have HN : Hid (checkFromS i 0 ls = 0) := by
            have := HF.out
            unfold Hid
            rw [List.drop_of_length_le (by omega), checkFromS_nil] at this
            exact this.symm
          clear HF
          go_wp2
          go_ret
          exact ⟨by rw [HN.out]; rfl, hb⟩
  · have e : checkS ls i = 2 := by unfold checkS; rw [if_pos (by omega)]
    rw [e]
    have g1 : i < 0 ∨ 1073741824 < i := by omega
    clear e h4 k1
    go_enter Try.func36, Try.ntmps36
    go_wp2_with fail
    refine (swithin_no i 0 1073741824 _ g1).mono ?_
    rintro e w1 ⟨rfl, hw⟩
    subst hw
    go_wp2
    go_ret
    exact ⟨rfl, Below.refl _ _⟩

end Go.Proofs.Ytpcacaohknkdlag
