/- The document's SessionsFault; The document's StateFault (joined by program) -/
import Derived.WalkKit
import Derived.ProofKit
import Derived.Laws.CopyOwn
import Derived.Laws.AppendOwn
import Derived.RegionTactic
import Derived.Laws.StructEq
import Derived.Deep.QuietTactic
import Derived.BigQuiet
import Derived.Test.YtpcacaohknkdlagSE26
import Derived.Test.YtpcacaohknkdlagSE11
import Derived.Test.YtpcacaohknkdlagSE00
namespace Go.Proofs.Ytpcacaohknkdlag

open Go.RowKit

set_option maxRecDepth 100000 in
set_option maxHeartbeats 3200000 in
theorem sessionsFault_any (v : Value) (ls : List SessD) (i : Int) (w : World) (B : Nat) (hv : SessR w B v ls) (hB : B ≤ w.heap.size) :
    Calls Try.prog 46 #[v, .int .i64 i] w fun e w' => e = .returned (.int .i64 (checkS ls i)) ∧ Below w.heap.size w w' := by
  obtain ⟨ao, cap, rfl, h1, h2, h3, h4⟩ := hv
  by_cases k1 : 0 ≤ i ∧ i ≤ 1073741824
  · obtain ⟨g1, g2⟩ := k1
    by_cases k2 : 4 < ls.length
    · have e : checkS ls i = 1 := by unfold checkS; rw [if_neg (by omega), if_pos k2]
      rw [e]
      clear e h4
      go_enter Try.func46, Try.ntmps46
      go_wp2_with fail
      refine (in_yes i 0 1073741824 _ g1 g2).mono ?_
      rintro e w1 ⟨rfl, hw⟩
      subst hw
      go_wp2
      go_ret
      exact ⟨rfl, Below.refl _ _⟩
    · have e : checkS ls i = checkFromS i 0 ls := by unfold checkS; rw [if_neg (by omega), if_neg k2]
      rw [e]
      clear e
      go_enter Try.func46, Try.ntmps46
      go_wp2_with fail
      refine (in_yes i 0 1073741824 _ g1 g2).mono ?_
      rintro e w1 ⟨rfl, hw⟩
      subst hw
      go_wp2
      go_loopw [5] (fun j wr => ∃ (k : Nat) (hd : Int), k ≤ ls.length ∧ j = .int .i64 k ∧ Hid ((k = 0 ∧ hd = 0) ∨ ∃ q x0, k = q + 1 ∧ ls[q]? = some x0 ∧ x0.client = hd) ∧ Hid (checkFromS i hd (ls.drop k) = checkFromS i 0 ls) ∧ Below w1.heap.size w1 wr) (fun j _ => ls.length - (intOf j).toNat)
      case atStart => exact ⟨0, 0, Nat.zero_le _, rfl, Or.inl ⟨rfl, rfl⟩, by simp [Hid], Below.refl _ _⟩
      case round =>
        obtain ⟨k, hd, hk, rfl, HP, HF, hb⟩ := hrel
        have hsz := hb.size
        by_cases hlt : k < ls.length
        · obtain ⟨b, off, rfl, hbB, hc⟩ := h4 (by omega)
          obtain ⟨y, hy⟩ : ∃ y, ls[k]? = some y := ⟨_, List.getElem?_eq_getElem hlt⟩
          obtain ⟨lv, c0, c1, c2, c3, c4, hl⟩ := (hc k y hy).below (by omega) hb hB
          have HD : Hid (checkFromS i hd (y :: ls.drop (k + 1)) = checkFromS i 0 ls) := by unfold Hid; rw [← sdrop hy]; exact HF.out
          have HB := ghid hb
          have HL := ghid hl
          have HY := ghid hy
          have HC0 := ghid hc
          clear hy hc h4 HF hb
          have hbr : b < wr.heap.size := by omega
          obtain ⟨yc, yi, ya, yl, yk⟩ := y
          obtain ⟨lo, lc, rfl, -⟩ := hl
          simp only at c0 c1 c2 c3 c4 HL
          have hba : Below wr.heap.size wr (wr.alloc (.cells #[.int .i64 yc, .int .i64 yi, .int .i64 ya, .int .i64 yl, .slice lo yk.length lc] 60)) := (Below.refl _ _).alloc (Nat.le_refl _) _
          have HBA := ghid hba
          clear hba
          by_cases r1 : 1 ≤ yc ∧ yc ≤ 9
          · by_cases r2 : 0 ≤ ya ∧ ya ≤ 1048576
            · by_cases r3 : 1 ≤ yi ∧ yi ≤ i
              · by_cases r4 : yi ≤ yl ∧ yl ≤ i
                · have hrg : rangeB ⟨yc, yi, ya, yl, yk⟩ i = true := by rw [rangeB_iff]; simp only; omega
                  have C := repliesMay_any yc yi ya yl (.slice lo yk.length lc) yk
                  cases hf : formFrom ya ya yk with
                  | true =>
                    have f1 : sformB ⟨yc, yi, ya, yl, yk⟩ = true := hf
                    rw [hf] at C
                    have HC := ghid C
                    clear C hf
                    by_cases q3 : yc ≤ hd
                    · have HN : Hid (checkFromS i 0 ls = 14) := HD.out.symm.trans (checkFromS_order hrg f1 q3)
                      rcases HP.out with ⟨rfl, rfl⟩ | ⟨q, x0, rfl, hx0, hcl⟩
                      · omega
                      · obtain ⟨lv0, d0, -⟩ := (HC0.out q x0 hx0).below (by omega) HB.out hB
                        rw [hcl] at d0
                        clear HD hrg f1 HP HC0 hx0 hcl
                        go_wp2_with fail
                        refine (in_yes yc 1 9 _ r1.1 r1.2).mono ?_
                        rintro e w1 ⟨rfl, hw⟩
                        subst hw
                        go_wp2_with fail
                        refine (in_yes ya 0 1048576 _ r2.1 r2.2).mono ?_
                        rintro e w1 ⟨rfl, hw⟩
                        subst hw
                        go_wp2_with fail
                        refine (in_yes yi 1 i _ r3.1 r3.2).mono ?_
                        rintro e w1 ⟨rfl, hw⟩
                        subst hw
                        go_wp2_with fail
                        refine (in_yes yl yi i _ r4.1 r4.2).mono ?_
                        rintro e w1 ⟨rfl, hw⟩
                        subst hw
                        go_wp2_with fail
                        refine (HC.out _ B (HL.out.below HBA.out (by omega)) (by simp; omega) r2.1 r2.2).mono ?_
                        rintro e w2 ⟨rfl, hb2⟩
                        obtain ⟨hc2, hf2⟩ := gcell hb2
                        have hz2 : wr.heap.size < w2.heap.size := by have := hb2.size; simp at this; omega
                        have HB3 := ghid (HB.out.trans ((HBA.out.mono hsz).trans (hb2.mono (by simp; omega))))
                        go_wp2_with fail
                        go_quiet (fail)
                        go_wp2
                        go_ret
                        exact ⟨by rw [HN.out]; rfl, HB3.out.trans (g_drewN_below _ _ _)⟩
                    · have HN : Hid (checkFromS i yc (ls.drop (k + 1)) = checkFromS i 0 ls) := (checkFromS_next hrg f1 q3).symm.trans HD.out
                      rcases HP.out with ⟨rfl, rfl⟩ | ⟨q, x0, rfl, hx0, hcl⟩
                      · clear HD hrg f1 HP HC0
                        simp only [Nat.zero_mul, Nat.add_zero] at c0 c1 c2 c3 c4
                        go_wp2_with fail
                        refine (in_yes yc 1 9 _ r1.1 r1.2).mono ?_
                        rintro e w1 ⟨rfl, hw⟩
                        subst hw
                        go_wp2_with fail
                        refine (in_yes ya 0 1048576 _ r2.1 r2.2).mono ?_
                        rintro e w1 ⟨rfl, hw⟩
                        subst hw
                        go_wp2_with fail
                        refine (in_yes yi 1 i _ r3.1 r3.2).mono ?_
                        rintro e w1 ⟨rfl, hw⟩
                        subst hw
                        go_wp2_with fail
                        refine (in_yes yl yi i _ r4.1 r4.2).mono ?_
                        rintro e w1 ⟨rfl, hw⟩
                        subst hw
                        go_wp2_with fail
                        refine (HC.out _ B (HL.out.below HBA.out (by omega)) (by simp; omega) r2.1 r2.2).mono ?_
                        rintro e w2 ⟨rfl, hb2⟩
                        obtain ⟨hc2, hf2⟩ := gcell hb2
                        have hz2 : wr.heap.size < w2.heap.size := by have := hb2.size; simp at this; omega
                        have HB3 := ghid (HB.out.trans ((HBA.out.mono hsz).trans (hb2.mono (by simp; omega))))
                        go_wp2_with fail
                        go_quiet (fail)
                        go_wp2
                        go_roundw
                        case rel => exact ⟨1, yc, by omega, rfl, Or.inr ⟨0, _, rfl, HY.out, rfl⟩, HN, HB3.out.trans (g_drewN_below _ _ _)⟩
                        case measure => simp [intOf]; omega
                      · obtain ⟨lv0, d0, -⟩ := (HC0.out q x0 hx0).below (by omega) HB.out hB
                        rw [hcl] at d0
                        clear HD hrg f1 HP HC0 hx0 hcl
                        go_wp2_with fail
                        refine (in_yes yc 1 9 _ r1.1 r1.2).mono ?_
                        rintro e w1 ⟨rfl, hw⟩
                        subst hw
                        go_wp2_with fail
                        refine (in_yes ya 0 1048576 _ r2.1 r2.2).mono ?_
                        rintro e w1 ⟨rfl, hw⟩
                        subst hw
                        go_wp2_with fail
                        refine (in_yes yi 1 i _ r3.1 r3.2).mono ?_
                        rintro e w1 ⟨rfl, hw⟩
                        subst hw
                        go_wp2_with fail
                        refine (in_yes yl yi i _ r4.1 r4.2).mono ?_
                        rintro e w1 ⟨rfl, hw⟩
                        subst hw
                        go_wp2_with fail
                        refine (HC.out _ B (HL.out.below HBA.out (by omega)) (by simp; omega) r2.1 r2.2).mono ?_
                        rintro e w2 ⟨rfl, hb2⟩
                        obtain ⟨hc2, hf2⟩ := gcell hb2
                        have hz2 : wr.heap.size < w2.heap.size := by have := hb2.size; simp at this; omega
                        have HB3 := ghid (HB.out.trans ((HBA.out.mono hsz).trans (hb2.mono (by simp; omega))))
                        go_wp2_with fail
                        go_quiet (fail)
                        go_wp2
                        go_roundw
                        case rel => exact ⟨q + 1 + 1, yc, by omega, by go_num, Or.inr ⟨q + 1, _, rfl, HY.out, rfl⟩, HN, HB3.out.trans (g_drewN_below _ _ _)⟩
                        case measure => simp [intOf]; omega
                  | false =>
                    have f1 : sformB ⟨yc, yi, ya, yl, yk⟩ = false := hf
                    rw [hf] at C
                    have HC := ghid C
                    have HN : Hid (checkFromS i 0 ls = 4) := HD.out.symm.trans (checkFromS_form hrg f1)
                    clear C hf HD hrg f1 HP HC0
                    go_wp2_with fail
                    refine (in_yes yc 1 9 _ r1.1 r1.2).mono ?_
                    rintro e w1 ⟨rfl, hw⟩
                    subst hw
                    go_wp2_with fail
                    refine (in_yes ya 0 1048576 _ r2.1 r2.2).mono ?_
                    rintro e w1 ⟨rfl, hw⟩
                    subst hw
                    go_wp2_with fail
                    refine (in_yes yi 1 i _ r3.1 r3.2).mono ?_
                    rintro e w1 ⟨rfl, hw⟩
                    subst hw
                    go_wp2_with fail
                    refine (in_yes yl yi i _ r4.1 r4.2).mono ?_
                    rintro e w1 ⟨rfl, hw⟩
                    subst hw
                    go_wp2_with fail
                    refine (HC.out _ B (HL.out.below HBA.out (by omega)) (by simp; omega) r2.1 r2.2).mono ?_
                    rintro e w2 ⟨rfl, hb2⟩
                    obtain ⟨hc2, hf2⟩ := gcell hb2
                    have hz2 : wr.heap.size < w2.heap.size := by have := hb2.size; simp at this; omega
                    have HB3 := ghid (HB.out.trans ((HBA.out.mono hsz).trans (hb2.mono (by simp; omega))))
                    go_wp2_with fail
                    go_ret
                    exact ⟨by rw [HN.out]; rfl, HB3.out⟩
                · have hrg : rangeB ⟨yc, yi, ya, yl, yk⟩ i = false := by
                    cases h : rangeB ⟨yc, yi, ya, yl, yk⟩ i
                    · rfl
                    · exact absurd (rangeB_iff.1 h) (by simp only; omega)
                  have HN : Hid (checkFromS i 0 ls = 2) := HD.out.symm.trans (checkFromS_range hrg)
                  have r5 : yl < yi ∨ i < yl := by omega
                  clear HD hrg HP HC0 r4
                  go_wp2_with fail
                  refine (in_yes yc 1 9 _ r1.1 r1.2).mono ?_
                  rintro e w1 ⟨rfl, hw⟩
                  subst hw
                  go_wp2_with fail
                  refine (in_yes ya 0 1048576 _ r2.1 r2.2).mono ?_
                  rintro e w1 ⟨rfl, hw⟩
                  subst hw
                  go_wp2_with fail
                  refine (in_yes yi 1 i _ r3.1 r3.2).mono ?_
                  rintro e w1 ⟨rfl, hw⟩
                  subst hw
                  go_wp2_with fail
                  refine (in_no yl yi i _ r5).mono ?_
                  rintro e w1 ⟨rfl, hw⟩
                  subst hw
                  go_wp2
                  go_ret
                  exact ⟨by rw [HN.out]; rfl, HB.out.trans (HBA.out.mono hsz)⟩
              · have hrg : rangeB ⟨yc, yi, ya, yl, yk⟩ i = false := by
                  cases h : rangeB ⟨yc, yi, ya, yl, yk⟩ i
                  · rfl
                  · exact absurd (rangeB_iff.1 h) (by simp only; omega)
                have HN : Hid (checkFromS i 0 ls = 2) := HD.out.symm.trans (checkFromS_range hrg)
                have r5 : yi < 1 ∨ i < yi := by omega
                clear HD hrg HP HC0 r3
                go_wp2_with fail
                refine (in_yes yc 1 9 _ r1.1 r1.2).mono ?_
                rintro e w1 ⟨rfl, hw⟩
                subst hw
                go_wp2_with fail
                refine (in_yes ya 0 1048576 _ r2.1 r2.2).mono ?_
                rintro e w1 ⟨rfl, hw⟩
                subst hw
                go_wp2_with fail
                refine (in_no yi 1 i _ r5).mono ?_
                rintro e w1 ⟨rfl, hw⟩
                subst hw
                go_wp2
                go_ret
                exact ⟨by rw [HN.out]; rfl, HB.out.trans (HBA.out.mono hsz)⟩
            · have hrg : rangeB ⟨yc, yi, ya, yl, yk⟩ i = false := by
                cases h : rangeB ⟨yc, yi, ya, yl, yk⟩ i
                · rfl
                · exact absurd (rangeB_iff.1 h) (by simp only; omega)
              have HN : Hid (checkFromS i 0 ls = 2) := HD.out.symm.trans (checkFromS_range hrg)
              have r5 : ya < 0 ∨ 1048576 < ya := by omega
              clear HD hrg HP HC0 r2
              go_wp2_with fail
              refine (in_yes yc 1 9 _ r1.1 r1.2).mono ?_
              rintro e w1 ⟨rfl, hw⟩
              subst hw
              go_wp2_with fail
              refine (in_no ya 0 1048576 _ r5).mono ?_
              rintro e w1 ⟨rfl, hw⟩
              subst hw
              go_wp2
              go_ret
              exact ⟨by rw [HN.out]; rfl, HB.out.trans (HBA.out.mono hsz)⟩
          · have hrg : rangeB ⟨yc, yi, ya, yl, yk⟩ i = false := by
              cases h : rangeB ⟨yc, yi, ya, yl, yk⟩ i
              · rfl
              · exact absurd (rangeB_iff.1 h) (by simp only; omega)
            have HN : Hid (checkFromS i 0 ls = 2) := HD.out.symm.trans (checkFromS_range hrg)
            have r5 : yc < 1 ∨ 9 < yc := by omega
            clear HD hrg HP HC0 r1
            go_wp2_with fail
            refine (in_no yc 1 9 _ r5).mono ?_
            rintro e w1 ⟨rfl, hw⟩
            subst hw
            go_wp2
            go_ret
            exact ⟨by rw [HN.out]; rfl, HB.out.trans (HBA.out.mono hsz)⟩
        · have HN : Hid (checkFromS i 0 ls = 0) := by
            have := HF.out
            unfold Hid
            rw [List.drop_of_length_le (by omega), checkFromS_nil] at this
            exact this.symm
          clear HF HP
          go_wp2
          go_ret
          exact ⟨by rw [HN.out]; rfl, hb⟩
  · have e : checkS ls i = 2 := by unfold checkS; rw [if_pos (by omega)]
    rw [e]
    have g1 : i < 0 ∨ 1073741824 < i := by omega
    clear e h4 k1
    go_enter Try.func46, Try.ntmps46
    go_wp2_with fail
    refine (in_no i 0 1073741824 _ g1).mono ?_
    rintro e w1 ⟨rfl, hw⟩
    subst hw
    go_wp2
    go_ret
    exact ⟨rfl, Below.refl _ _⟩

end Go.Proofs.Ytpcacaohknkdlag

namespace Go.Proofs.Ytpcacaohknkdlag

open Go.RowKit

set_option maxHeartbeats 800000 in
theorem stateFault_any (v : Value) (s : StateD) (w : World) (B : Nat) (hv : StateR w B v s) (hB : B ≤ w.heap.size) :
    Calls Try.prog 22 #[v] w fun e w' => e = .returned (.int .i64 (checkM s)) ∧ Below w.heap.size w w' := by
  obtain ⟨lv, pv, sv, rfl, h1, h2, h3⟩ := hv
  have CS := ghid (fun (w' : World) (hb : Below w.heap.size w w') => sessionsFault_any sv s.sess s.index w' B (h3.below hb hB) (by have := hb.size; omega))
  have CL := ghid (fun (w' : World) (hb : Below w.heap.size w w') => locksFault_any lv s.locks w' B (h1.below hb hB) (by have := hb.size; omega))
  have CP := ghid (fun (w' : World) (hb : Below w.heap.size w w') => pairsFault_any pv s.pairs w' B (h2.below hb hB) (by have := hb.size; omega))
  have HC := ghid (checkM_cases s)
  obtain ⟨lo, lc, rfl⟩ := h1.slice
  obtain ⟨po, pc, rfl⟩ := h2.slice
  obtain ⟨so, sc, rfl⟩ := h3.slice
  obtain ⟨ln, hln⟩ : ∃ n, n = s.locks.length := ⟨_, rfl⟩
  obtain ⟨pn, hpn⟩ : ∃ n, n = s.pairs.length := ⟨_, rfl⟩
  obtain ⟨sn, hsn⟩ : ∃ n, n = s.sess.length := ⟨_, rfl⟩
  obtain ⟨ix, hix⟩ : ∃ n, n = s.index := ⟨_, rfl⟩
  obtain ⟨c1, hc1⟩ : ∃ n, n = checkS s.sess s.index := ⟨_, rfl⟩
  obtain ⟨c2, hc2⟩ : ∃ n, n = checkL s.locks := ⟨_, rfl⟩
  obtain ⟨c3, hc3⟩ : ∃ n, n = checkP s.pairs := ⟨_, rfl⟩
  obtain ⟨c0, hc0⟩ : ∃ n, n = checkM s := ⟨_, rfl⟩
  rw [← hsn, ← hc1, ← hix] at CS
  rw [← hln, ← hc2] at CL
  rw [← hpn, ← hc3] at CP
  rw [← hc1, ← hc2, ← hc3, ← hc0] at HC
  rw [← hc0, ← hix, ← hln, ← hpn, ← hsn]
  have hb0 : Below w.heap.size w (w.alloc (.cells #[.int .i64 ix, .slice lo ln lc, .slice po pn pc, .slice so sn sc] 26)) := (Below.refl _ _).alloc (Nat.le_refl _) _
  have HB0 := ghid hb0
  clear h1 h2 h3 hln hpn hsn hix hc1 hc2 hc3 hc0 hb0
  rcases HC.out with ⟨e1, e0⟩ | ⟨e1, e2, e0⟩ | ⟨e1, e2, e0⟩
  · subst e0
    have hn : (c0 != 0) = true := by simpa using e1
    clear HC e1
    go_enter Try.func22, Try.ntmps22
    go_wp2_with fail
    refine (CS.out _ HB0.out).mono ?_
    rintro e w1 ⟨rfl, hb1⟩
    have HB1 := ghid (HB0.out.trans (hb1.mono (by simp)))
    clear hb1
    go_wp2
    go_ret
    exact ⟨rfl, HB1.out⟩
  · subst e0 e1
    have hn : (c0 != 0) = true := by simpa using e2
    clear HC e2
    go_enter Try.func22, Try.ntmps22
    go_wp2_with fail
    refine (CS.out _ HB0.out).mono ?_
    rintro e w1 ⟨rfl, hb1⟩
    have HB1 := ghid (HB0.out.trans (hb1.mono (by simp)))
    obtain ⟨k1, k2⟩ := gcell hb1
    clear hb1
    go_wp2_with fail
    refine (CL.out _ HB1.out).mono ?_
    rintro e w2 ⟨rfl, hb2⟩
    have HB2 := ghid (HB1.out.trans (hb2.mono HB1.out.size))
    clear hb2
    go_wp2
    go_ret
    exact ⟨rfl, HB2.out⟩
  · subst e0 e1 e2
    clear HC
    go_enter Try.func22, Try.ntmps22
    go_wp2_with fail
    refine (CS.out _ HB0.out).mono ?_
    rintro e w1 ⟨rfl, hb1⟩
    have HB1 := ghid (HB0.out.trans (hb1.mono (by simp)))
    obtain ⟨k1, k2⟩ := gcell hb1
    have hz1 : w.heap.size < w1.heap.size := by have := hb1.size; simp at this; omega
    clear hb1
    go_wp2_with fail
    refine (CL.out _ HB1.out).mono ?_
    rintro e w2 ⟨rfl, hb2⟩
    have HB2 := ghid (HB1.out.trans (hb2.mono HB1.out.size))
    obtain ⟨k3, k4⟩ := gcell hb2
    clear hb2
    go_wp2_with fail
    refine (CP.out _ HB2.out).mono ?_
    rintro e w3 ⟨rfl, hb3⟩
    have HB3 := ghid (HB2.out.trans (hb3.mono HB2.out.size))
    clear hb3
    go_wp2
    go_ret
    exact ⟨rfl, HB3.out⟩

end Go.Proofs.Ytpcacaohknkdlag
