/- The document's ReadyOf. (Written by gen_readyof.py.) -/
import Derived.Test.YtmcdbdcabiccnafRefSessF
import Derived.Test.YtmcdbdcabiccnafRefSessCopy
import Derived.Test.YtmcdbdcabiccnafRefSessAt
import Derived.Test.YtmcdbdcabiccnafRefKept
import Derived.Test.YtmcdbdcabiccnafSessReadyMath
import Derived.Test.YtmcdbdcabiccnafSessAnswer
import Derived.RegionTactic
import Derived.BigRegion
namespace Go.Proofs.Ytmcdbdcabiccnaf
open Go.RowKit


theorem filter_succ {α : Type} (q : α → Bool) (rs : List α) (k : Nat) (r : α) (hr : rs[k]? = some r) : (rs.take (k + 1)).filter q = (rs.take k).filter q ++ (if q r then [r] else []) := by
  obtain ⟨hk, he⟩ := List.getElem?_eq_some_iff.1 hr
  rw [List.take_succ_eq_append_getElem hk, List.filter_append, he]
  cases h : q r <;> simp [List.filter, h]

set_option maxRecDepth 100000 in
set_option maxHeartbeats 6400000 in
theorem readyOf_here (v : Value) (ls : List SessD) (i kk cc ss qq uu ok : Int) (aa bb : ByteArray) (nn : Int) (w : World) (B : Nat) (hv : SessR w B v ls) (hB : B ≤ w.heap.size) (hr : readyE ls i qq uu = 0) (x : SessD) (ht : thereS ls cc = true) (hx : ls[placeS ls cc]? = some x) (hid : x.id = ss) :
    Calls Try.prog 13 #[v, .int .i64 i, .agg #[.int .i64 kk, .int .i64 cc, .int .i64 ss, .int .i64 qq, .int .i64 uu, .int .i64 ok, .string aa, .string bb, .int .i64 nn]] w fun e w' => ∃ v', e = .returned (.tuple #[v', .agg #[.int .i64 (answerD (hearD x (i + 1) uu) qq).1.code, .int .i64 (answerD (hearD x (i + 1) uu) qq).1.n, .string (answerD (hearD x (i + 1) uu) qq).1.text], .bool (answerD (hearD x (i + 1) uu) qq).2, .int .i64 0]) ∧ SessR w' w'.heap.size v' (ls.set (placeS ls cc) (hearD x (i + 1) uu)) ∧ Below w.heap.size w w' := by
  obtain ⟨W0, hW0⟩ : ∃ W0, W0 = (w.alloc (.cells #[.int .i64 kk, .int .i64 cc, .int .i64 ss, .int .i64 qq, .int .i64 uu, .int .i64 ok, .string aa, .string bb, .int .i64 nn] 34)).alloc (.cells #[.int .i64 0, .int .i64 0, .string ⟨#[]⟩] 26) := ⟨_, rfl⟩
  have hb0 : Below w.heap.size w W0 := by rw [hW0]; exact ((Below.refl _ _).alloc (Nat.le_refl _) _).alloc (by simp) _
  have hz0 : W0.heap.size = w.heap.size + 2 := by rw [hW0]; simp
  have HG0 : Hid (W0.heap[w.heap.size]? = some (.cells #[.int .i64 kk, .int .i64 cc, .int .i64 ss, .int .i64 qq, .int .i64 uu, .int .i64 ok, .string aa, .string bb, .int .i64 nn] 34 (0, 0))) := by
    unfold Hid; rw [hW0]; exact (Below.heap_alloc _ _ _ (by simp)).trans (heap_alloc_new w _)
  have HR0 : Hid (GReply W0 (w.heap.size + 1)) := by
    unfold Hid; rw [hW0]
    have := GReply.new (w.alloc (.cells #[.int .i64 kk, .int .i64 cc, .int .i64 ss, .int .i64 qq, .int .i64 uu, .int .i64 ok, .string aa, .string bb, .int .i64 nn] 34))
    simpa using this
  have CR := sessionsFault_any v ls i W0 B (hv.below hb0 hB) (by omega)
  have HW0 := ghid hW0
  have HB0 := ghid hb0
  clear hb0 hW0
  obtain ⟨h1, h3, ⟨hq0, hq1⟩, hu0, hu1⟩ := readyE_zero hr
  have HGD := ghid (checkS_zero h1)
  have hi0 := HGD.out.low
  have hi1 := HGD.out.high
  have hine : ¬ 1073741824 ≤ i := by omega
  rw [h1] at CR
  have HV := ghid hv
  obtain ⟨ao, cap, rfl, -⟩ := hv
  obtain ⟨x', hx', hxc⟩ := thereS_some ht
  have CP := ghid (fun u w' hu => sessionAt_found u ls cc (placeS ls cc) x' w' w'.heap.size hu hx' hxc (fun j y hj hy => by have := placeS_before hj hy; omega))
  have hlt : placeS ls cc < ls.length := (List.getElem?_eq_some_iff.1 hx).1
  have hfine := HGD.out.fine x (List.mem_of_getElem? hx)
  have hrg := rangeB_iff.1 hfine.range
  have hxl := sformB_len hfine.form
  have HORD := ghid (formFrom_rise hfine.form)
  obtain ⟨n, hne⟩ : ∃ n, n = placeS ls cc := ⟨_, rfl⟩
  rw [← hne] at CP hx hlt ⊢
  have HX := ghid hx
  obtain ⟨xc, xi, xa, xt, xk⟩ := x
  simp only at hid hrg hxl HORD
  subst hid
  have hxa0 : 0 ≤ xa := hrg.2.2.1
  have hxa1 : xa ≤ 1048576 := hrg.2.2.2.1
  obtain ⟨rc, rn, rt, rb, hD⟩ : ∃ rc rn rt rb, answerD (hearD ⟨xc, xi, xa, xt, xk⟩ (i + 1) uu) qq = (⟨rc, rn, rt⟩, rb) := ⟨_, _, _, _, rfl⟩
  rw [hD]
  have HD := ghid hD
  simp only
  clear hne ht hr h1 h3 hx hx' hxc hfine hrg hD
  by_cases hac : xa < uu
  · have HMX : Hid (max xa uu = uu) := by unfold Hid; omega
    go_enter Try.func13, Try.ntmps13
    go_wp2_with fail
    rw [← HW0.out]
    refine CR.mono ?_
    rintro e w1 ⟨rfl, hb1⟩
    have hz1 : w.heap.size + 2 ≤ w1.heap.size := by have := hb1.size; omega
    have hz1' : w.heap.size < w1.heap.size := by omega
    have HG1 := ghid ((hb1.block w.heap.size (by omega)).trans HG0.out)
    have HR1 := ghid (HR0.out.below hb1 HR0.out.lt)
    have HB1 := ghid (HB0.out.trans (hb1.mono (by omega)))
    have x3 := cell_of_row w1 w.heap.size 3 _ _ _ HG1.out
    have x4 := cell_of_row w1 w.heap.size 4 _ _ _ HG1.out
    simp only [List.getElem?_toArray, List.getElem?_cons_zero, List.getElem?_cons_succ] at x3 x4
    clear hb1 CR hz0
    go_wp2_with fail
    refine (in_yes qq 1 1048576 _ hq0 hq1).mono ?_
    rintro e w9 ⟨rfl, hw⟩
    subst w9
    go_wp2_with fail
    refine (in_yes uu 0 (qq - 1) _ hu0 hu1).mono ?_
    rintro e w9 ⟨rfl, hw⟩
    subst w9
    go_wp2_with fail
    refine (sessionsCopy_any _ ls w1 B (HV.out.below HB1.out hB) (by have := HB1.out.size; omega)).mono ?_
    rintro e w2 ⟨v2, rs, rfl, hrs, hown2, hb2⟩
    have HG2 := ghid ((hb2.block w.heap.size hz1').trans HG1.out)
    have HR2 := ghid (HR1.out.below hb2 HR1.out.lt)
    have HB2 := ghid (HB1.out.trans (hb2.mono HB1.out.size))
    have HRS := ghid hrs
    have HO2 := ghid hown2
    have hrd := hown2.reads (Nat.le_refl _)
    rw [hrs] at hrd
    have hz12 : w1.heap.size ≤ w2.heap.size := hb2.size
    have hz2' : w.heap.size < w2.heap.size := lt_of_block HG2.out
    have y1 := cell_of_row w2 w.heap.size 1 _ _ _ HG2.out
    have y2 := cell_of_row w2 w.heap.size 2 _ _ _ HG2.out
    have y3 := cell_of_row w2 w.heap.size 3 _ _ _ HG2.out
    have y4 := cell_of_row w2 w.heap.size 4 _ _ _ HG2.out
    simp only [List.getElem?_toArray, List.getElem?_cons_zero, List.getElem?_cons_succ] at y1 y2 y3 y4
    clear hb2 hown2 hrs x3 x4
    go_wp2_with fail
    refine (CP.out _ _ hrd).mono ?_
    rintro e w9 ⟨rfl, hw⟩
    subst w9
    obtain ⟨r0, r1, r2, rf⟩ := HR2.out.cells
    have hq : w.heap.size + 1 < w2.heap.size := HR2.out.lt
    have hq1' : w.heap.size + 1 < w1.heap.size := HR1.out.lt
    clear hrd CP
    obtain ⟨xv, hrn⟩ := map_at HRS.out HX.out
    have HRN := ghid hrn
    have hrl : rs.length = ls.length := by rw [← HRS.out, List.length_map]
    obtain ⟨g, gc, hge, hgb, hgl, -⟩ := grow_some HO2.out.row (by omega)
    subst hge
    rw [hrl] at HO2 ⊢
    obtain ⟨d0, d1, d2, d3, d4⟩ := HO2.out.cells hrn
    have df := HO2.out.frozenAt
    simp only at d0 d1 d2 d3 d4
    have hnl : (n : Int) < ls.length := by omega
    have hn0 : ¬ (n : Int) < 0 := by omega
    have hn1 : decide ((n : Int) < 0) = false := by simp
    have hg1 : g ≠ w.heap.size := by omega
    have hg2 : w.heap.size ≠ g := by omega
    have hg3 : g ≠ w.heap.size + 1 := by omega
    have hg4 : w.heap.size + 1 ≠ g := by omega
    clear hrn hrl
    go_wp2_with fail
    go_quiet (fail)
    rename Nat => nq1
    go_wp2_with fail
    go_quiet (fail)
    go_wp2
    obtain ⟨W4, hW4⟩ : ∃ W4 : World, W4 = (((w2.drewN nq1).setCell ⟨g, n * 5 + 3, none⟩ (.int .i64 (i + 1))).drewN nq).setCell ⟨g, n * 5 + 2, none⟩ (.int .i64 uu) := ⟨_, rfl⟩
    rw [← hW4]
    have hil : n < rs.length := (List.getElem?_eq_some_iff.1 HRN.out).1
    have HO4 : Hid (OwnS W4 w1.heap.size (.slice (some ⟨g, 0, none⟩) ls.length gc) (rs.set n ((⟨xc, xi, uu, i + 1, xk⟩ : SessD), xv))) := by
      have h1 := (HO2.out.below (g_drewN_below w2.heap.size w2 nq1) (Nat.le_refl _)).setLast HRN.out (i + 1)
      have h2 := (h1.below (g_drewN_below _ _ nq) (Nat.le_refl _)).setAcked (r := (⟨xc, xi, xa, i + 1, xk⟩, xv)) (i := n) (by rw [List.getElem?_set_self hil]) uu
      rw [List.set_set] at h2
      rw [hW4]
      exact h2
    have HT4 : Hid (Below w1.heap.size w2 W4) := by
      unfold Hid
      rw [hW4]
      exact (((g_drewN_below w1.heap.size w2 nq1).setCell (by show w1.heap.size ≤ g; omega) _).trans (g_drewN_below _ _ _)).setCell (by show w1.heap.size ≤ g; omega) _
    clear hW4 d0 d1 d2 d3 d4 df y1 y2 y3 y4 r0 r1 r2 rf
    have hri : (rs.set n ((⟨xc, xi, uu, i + 1, xk⟩ : SessD), xv))[n]? = some (⟨xc, xi, uu, i + 1, xk⟩, xv) := List.getElem?_set_self hil
    obtain ⟨d0, d1, d2, d3, d4⟩ := HO4.out.cells hri
    have df := HO4.out.frozenAt
    simp only at d0 d1 d2 d3 d4
    have HRI := ghid hri
    have HB4 := ghid (HB2.out.trans (HT4.out.mono (by omega)))
    have HR4 := ghid (HR2.out.below HT4.out (by omega))
    have HG4 := ghid ((HT4.out.block w.heap.size (by omega)).trans HG2.out)
    have hz4 : w2.heap.size ≤ W4.heap.size := HT4.out.size
    have hg4l : g < W4.heap.size := by omega
    have HKR := ghid ((HO4.out.reps.each _ (List.mem_of_getElem? hri)).reads (Nat.le_refl _))
    simp only at HKR
    have hkr := HKR.out
    obtain ⟨lo, lc, rfl, k1, k2, k3, k4⟩ := hkr
    have y3 := cell_of_row W4 w.heap.size 3 _ _ _ HG4.out
    simp only [List.getElem?_toArray, List.getElem?_cons_zero, List.getElem?_cons_succ] at y3
    have hw4 : w.heap.size < W4.heap.size := by omega
    obtain ⟨i0, hi, hz0, hz1q, hz2⟩ := info_parts Try.infoKept
    clear hri
    go_loopw [13, 14] (fun o kv wr => ∃ (k : Nat), k ≤ xk.length ∧ kv = .int .i64 k ∧ wr.ownsRow W4.heap.size 54 4 o ((xk.take k).filter fun e => !decide (e.seq ≤ uu)).length (flatG keptCells ((xk.take k).filter fun e => !decide (e.seq ≤ uu))) ∧ Below W4.heap.size W4 wr)
      (fun _ kv _ => xk.length - (intOf kv).toNat)
    case atStart => exact ⟨0, Nat.zero_le _, rfl, by simpa [flatG] using World.ownsRow_nil _ _ _ _, Below.refl _ _⟩
    case round =>
      obtain ⟨k, hkp, rfl, hrow, hb⟩ := hrel
      have hsz := hb.size
      have HR := ghid hrow
      have HB := ghid hb
      have f4 : wr.cell? ⟨g, n * 5 + 4, none⟩ = some (.slice lo xk.length lc) := (hb.cell (p := ⟨g, n * 5 + 4, none⟩) hg4l).trans d4
      have f2 : wr.cell? ⟨g, n * 5 + 2, none⟩ = some (.int .i64 uu) := (hb.cell (p := ⟨g, n * 5 + 2, none⟩) hg4l).trans d2
      have hgr : g < wr.heap.size := by omega
      have hfl : ((xk.take k).filter fun e => !decide (e.seq ≤ uu)).length ≤ k := Nat.le_trans (List.length_filter_le _ _) (by rw [List.length_take]; omega)
      obtain ⟨oo, oc, rfl⟩ := grow_shape hrow
      obtain ⟨nf, hnf⟩ : ∃ nf, nf = ((xk.take k).filter fun e => !decide (e.seq ≤ uu)).length := ⟨_, rfl⟩
      rw [← hnf] at HR hfl ⊢
      have HNF := ghid hnf.symm
      by_cases hlt2 : k < xk.length
      · obtain ⟨kb, kf, rfl, hkB, hkc⟩ := k4 (by omega)
        obtain ⟨y, hy⟩ : ∃ y, xk[k]? = some y := ⟨_, List.getElem?_eq_getElem hlt2⟩
        obtain ⟨c0, c1, c2, c3, -⟩ := (hkc k y hy).below hkB hb
        have HS := ghid (filter_succ (fun e : KeptD => !decide (e.seq ≤ uu)) xk k y hy)
        obtain ⟨xs, xd, xn, xx⟩ := y
        simp only at c0 c1 c2 c3 HS
        have hkbr : kb < wr.heap.size := by omega
        have hnf4 : nf ≤ 4 := by omega
        clear hrow hb hy hkc hnf
        by_cases hsm : xs ≤ uu
        · have hsm2 : ¬ uu < xs := by omega
          have HN : Hid ((xk.take (k + 1)).filter (fun e => !decide (e.seq ≤ uu)) = (xk.take k).filter fun e => !decide (e.seq ≤ uu)) := by
            have := HS.out
            simp only [decide_eq_true hsm, Bool.not_true, if_false, List.append_nil, Bool.false_eq_true] at this
            exact this
          clear HS
          go_wp2_with fail
          go_quiet (fail)
          go_wp2
          go_roundw
          case rel => exact ⟨k + 1, by omega, by go_num, by rw [HN.out, HNF.out]; exact grow_below HR.out (g_drewN_below _ _ _) (Nat.le_refl _), HB.out.trans (g_drewN_below _ _ _)⟩
          case measure => simp [intOf]; omega
        · have hsm2 : uu < xs := by omega
          have HN : Hid ((xk.take (k + 1)).filter (fun e => !decide (e.seq ≤ uu)) = ((xk.take k).filter fun e => !decide (e.seq ≤ uu)) ++ [(⟨xs, xd, xn, xx⟩ : KeptD)]) := by
            have := HS.out
            simp only [decide_eq_false hsm, Bool.not_false, if_true] at this
            exact this
          clear HS
          go_wp2_with fail
          go_quiet (fail)
          have HBE := ghid (HB.out.trans (g_drewN_below W4.heap.size wr nq))
          have HRE : Hid ((wr.drewN nq).ownsRow W4.heap.size 54 4 (.slice oo nf oc) nf (flatG keptCells ((xk.take k).filter fun e => !decide (e.seq ≤ uu)))) := grow_below HR.out (g_drewN_below _ _ _) (Nat.le_refl _)
          obtain ⟨Wa, hWa⟩ : ∃ Wa, Wa = (wr.drewN nq).alloc (.cells #[.int .i64 xs, .int .i64 xd, .int .i64 xn, .string xx] 54) := ⟨_, rfl⟩
          have HAa : Hid (Below (wr.drewN nq).heap.size (wr.drewN nq) Wa) := by unfold Hid; rw [hWa]; exact (Below.refl _ _).alloc (Nat.le_refl _) _
          have HROWa : Hid (Wa.ownsRow W4.heap.size 54 4 (.slice oo nf oc) nf (flatG keptCells (((xk.take k).filter fun e => !decide (e.seq ≤ uu))))) := grow_below HRE.out HAa.out (Nat.le_refl _)
          have HNEWa : Hid (∀ j u, (keptCells (⟨xs, xd, xn, xx⟩ : KeptD))[j]? = some u → Wa.cell? ((⟨wr.heap.size, 0, none⟩ : Addr).add j) = some u) := by
            unfold Hid
            rw [hWa]
            exact World.news_of_block (kheap_at (wr.drewN nq) _ _ (by simp))
          have hza : W4.heap.size ≤ Wa.heap.size := Nat.le_trans hsz HAa.out.size
          have HWa := ghid hWa
          clear hWa
          go_wp2_with (at_builtin; refine wpList_append_lies _ rfl (.tmp 109) (.tmp 118) 49 rfl W4.heap.size 54 i0 _ 4 40 Try.underlying49 hi hz0 hz1q hz2 rfl (by decide) (.slice oo nf oc) nf (flatG keptCells (((xk.take k).filter fun e => !decide (e.seq ≤ uu)))) rfl (by rw [← HWa.out]; exact HROWa.out) ⟨wr.heap.size, 0, none⟩ 1 1 (keptCells (⟨xs, xd, xn, xx⟩ : KeptD)) rfl rfl (by rw [← HWa.out]; exact HNEWa.out) (keptCells_one _) (by omega) (by unfold maxLen; omega) (by omega) (by rw [← HWa.out]; exact hza) _ rfl ?_)
          intro ga ca w5 howna hga hata hlta
          rw [← HWa.out] at hga
          have HRa : Hid (w5.ownsRow W4.heap.size 54 4 (.slice (some ⟨ga, 0, none⟩) (nf + 1) ca) (nf + 1) (flatG keptCells (((xk.take k).filter fun e => !decide (e.seq ≤ uu)) ++ [(⟨xs, xd, xn, xx⟩ : KeptD)]))) := by
            unfold Hid
            rw [flatG_snoc]
            exact howna
          have hba := (HBE.out.trans (HAa.out.mono hsz)).grown hga hza (fun c hc => (HRE.out.lt c hc).1)
          have HBa := ghid hba
          have hsza := hba.size
          have kxa : ∀ b o, b < W4.heap.size → w5.cell? ⟨b, o, none⟩ = W4.cell? ⟨b, o, none⟩ := fun b o h => hba.cell (p := ⟨b, o, none⟩) h
          clear howna hga hata hlta hba HROWa HNEWa
          have HL : Hid (((xk.take (k + 1)).filter fun e => !decide (e.seq ≤ uu)).length = nf + 1) := by unfold Hid; rw [HN.out, List.length_append, HNF.out]; rfl
          go_wp2
          go_roundw
          case rel => exact ⟨k + 1, by omega, by go_num, by rw [HL.out, HN.out]; exact HRa.out, HBa.out⟩
          case measure => simp [intOf]; omega
      · skip
        have hke : k = xk.length := by omega
        subst hke
        have htk : xk.take xk.length = xk := List.take_of_length_le (Nat.le_refl _)
        rw [htk] at HR HNF
        obtain ⟨KS, hKS⟩ : ∃ KS, KS = xk.filter fun e => !decide (e.seq ≤ uu) := ⟨_, rfl⟩
        rw [← hKS] at HR HNF
        have HHD : Hid (hearD ⟨xc, xi, xa, xt, xk⟩ (i + 1) uu = ⟨xc, xi, uu, i + 1, KS⟩) := by
          unfold Hid hearD
          simp only
          rw [HMX.out, hKS]
        have HDX : Hid (answerD ⟨xc, xi, uu, i + 1, KS⟩ qq = (⟨rc, rn, rt⟩, rb)) := by unfold Hid; rw [← HHD.out]; exact HD.out
        have HKO : Hid (KS.Pairwise (fun a b => a.seq < b.seq)) := by unfold Hid; rw [hKS]; exact HORD.out.sublist List.filter_sublist
        have hmod : ModestK KS := fun e he => HKR.out.modest e (by rw [hKS] at he; exact (List.mem_filter.1 he).1)
        have hos := HO4.out.setReplies (ks := KS) HRI.out (TouchG.of_below hb (Nat.le_refl _) _) ⟨by rw [HNF.out]; exact grow_mono HR.out (by omega), by rw [HNF.out]; omega, hmod⟩ (fun b hb' => Or.inr (HR.out.lt b hb').1)
        rw [List.set_set] at hos
        simp only at hos
        have ff := (hb.frozen (p := ⟨g, n * 5 + 4, none⟩) hg4l).trans (df _)
        obtain ⟨W5, hW5⟩ : ∃ W5, W5 = wr.setCell ⟨g, n * 5 + 4, none⟩ (.slice oo nf oc) := ⟨_, rfl⟩
        rw [← hW5] at hos
        have hbW : Below w1.heap.size W4 W5 := by rw [hW5]; exact Below.setCell (hb.mono (by omega)) hgb _
        have HB5 := ghid (HB4.out.trans (hbW.mono (by omega)))
        have HR5 := ghid (HR4.out.below hbW (by omega))
        have HG5 := ghid ((hbW.block w.heap.size (by omega)).trans HG4.out)
        have HO5 := ghid hos
        have hri5 : (rs.set n ((⟨xc, xi, uu, i + 1, KS⟩ : SessD), Value.slice oo nf oc))[n]? = some (⟨xc, xi, uu, i + 1, KS⟩, .slice oo nf oc) := List.getElem?_set_self hil
        obtain ⟨p0, p1, p2, p3, p4⟩ := hos.cells hri5
        simp only at p0 p1 p2 p3 p4
        have HKR5 := ghid ((hos.reps.each _ (List.mem_of_getElem? hri5)).reads (Nat.le_refl _))
        simp only at HKR5
        have HOK5 := ghid (hos.reps.each _ (List.mem_of_getElem? hri5))
        simp only at HOK5
        have hkr5 := HKR5.out
        obtain ⟨ao5, cap5, hve5, q1, q2, q3, q4⟩ := hkr5
        simp only [Value.slice.injEq] at hve5
        obtain ⟨rfl, -, rfl⟩ := hve5
        rw [HNF.out] at q1 q4
        have z3 := cell_of_row W5 w.heap.size 3 _ _ _ HG5.out
        simp only [List.getElem?_toArray, List.getElem?_cons_zero, List.getElem?_cons_succ] at z3
        obtain ⟨s0, s1, s2, sf⟩ := HR5.out.cells
        have hq5 : w.heap.size + 1 < W5.heap.size := HR5.out.lt
        have hq6 : w.heap.size < W5.heap.size := by omega
        have hg5l : g < W5.heap.size := hos.block.2
        have HW5 := ghid hW5
        have HM : Hid ((rs.set n ((⟨xc, xi, uu, i + 1, KS⟩ : SessD), Value.slice oo nf oc)).map (·.1) = ls.set n (hearD ⟨xc, xi, xa, xt, xk⟩ (i + 1) uu)) := by
          unfold Hid
          rw [List.map_set, HRS.out, HHD.out]
        clear hos hbW hri5 hW5 htk hKS hrow hb hnf hi hz0 hz1q hz2
        go_wp2_with fail
        rw [← HW5.out]
        clear f4 f2 d0 d1 d2 d3 d4 df ff y3
        by_cases hqa : qq ≤ uu
        · exact absurd hqa (by omega)
        · cases htk2 : thereK KS qq with
          | true =>
            obtain ⟨k0, hk0, hk0q⟩ := thereK_some htk2
            have ha := HDX.out.symm.trans (answerD_kept (x := ⟨xc, xi, uu, i + 1, KS⟩) hqa htk2 hk0)
            simp only [Prod.mk.injEq, ReplyD.mk.injEq] at ha
            obtain ⟨⟨rfl, rfl, rfl⟩, rfl⟩ := ha
            have hpl : placeK KS qq < KS.length := (List.getElem?_eq_some_iff.1 hk0).1
            rw [HNF.out] at hpl
            have HLOW : Hid (∀ (j : Nat) (y : KeptD), j < placeK KS qq → KS[j]? = some y → y.seq < qq) := fun j y hj hy => placeK_before hj hy
            obtain ⟨p, hpe⟩ : ∃ p, p = placeK KS qq := ⟨_, rfl⟩
            rw [← hpe] at hk0 hpl HLOW
            have HK0 := ghid hk0
            clear hpe hk0 htk2
            go_quiet (fail)
            rename Nat => nq2
            go_wp2
            go_loopw [15] (fun kv wi => ∃ k m : Nat, k ≤ p ∧ kv = .int .i64 k ∧ wi = W5.drewN m) (fun kv _ => nf - (intOf kv).toNat)
            case atStart => exact ⟨0, nq2, Nat.zero_le _, rfl, rfl⟩
            case round =>
              obtain ⟨k, m, hkp2, rfl, rfl⟩ := hrel
              have hkn : k < nf := by omega
              obtain ⟨qb, qf, rfl, hqB, hqc⟩ := q4 (by omega)
              obtain ⟨y, hy⟩ : ∃ y, KS[k]? = some y := ⟨_, List.getElem?_eq_getElem (by rw [HNF.out]; omega)⟩
              obtain ⟨c0, c1, c2, c3, -⟩ := hqc k y hy
              have HY := ghid hy
              clear hy hqc
              by_cases hkpe : k = p
              · have e : y = k0 := by
                  subst hkpe
                  have := HY.out.symm.trans HK0.out
                  simpa using this
                subst e
                obtain ⟨ys, yc, yn, yt⟩ := y
                simp only at c0 c1 c2 c3 hk0q ⊢
                subst hk0q
                have hqb1 : qb ≠ w.heap.size + 1 := by
                  have := (HOK5.out.row.lt qb rfl).1
                  omega
                clear hkpe
                go_wp2_with fail
                go_quiet (fail)
                go_wp2_with fail
                go_region
                all_goals
                  go_wp2
                  refine bodyPost_ret (v := .tuple #[.slice (some ⟨g, 0, none⟩) ls.length gc, .agg #[.int .i64 yc, .int .i64 yn, .string yt], .bool false, .int .i64 0]) (by simp [results, Try.results13, go_sem, s0, s1, s2]) rfl ⟨_, rfl, ?_, ?_⟩
                  · have t := (HO5.out.below (g_drewN_below W5.heap.size W5 (m + nq)) (Nat.le_refl _)).out3 hq1' (.int .i64 yc) (.int .i64 yn) (.string yt)
                    rw [HM.out] at t
                    first
                      | exact t
                      | exact (t.below (Below.refl _ _).drew (Nat.le_refl _)).mono (by simp [World.setCell])
                  · first
                      | exact gbelow3 (HB5.out.trans (g_drewN_below _ _ _)) (by omega) _ _ _
                      | exact (gbelow3 (HB5.out.trans (g_drewN_below _ _ _)) (by omega) _ _ _).drew
              · have hlo := HLOW.out k _ (by omega) HY.out
                obtain ⟨ys, yc, yn, yt⟩ := y
                simp only at c0 c1 c2 c3 hlo
                have hne : (ys == qq) = false := by simpa using (show ¬ ys = qq by omega)
                go_wp2_with fail
                go_quiet (fail)
                go_wp2
                go_roundw
                case rel => exact ⟨k + 1, _, by omega, by go_num, rfl⟩
                case measure => simp [intOf]; omega
          | false =>
            have HNE : Hid (∀ (j : Nat) (y : KeptD), KS[j]? = some y → ¬ y.seq = qq) := by
              intro j y hy
              by_cases h : j < placeK KS qq
              · have := placeK_before h hy; omega
              · have := placeK_above HKO.out htk2 (by omega) hy; omega
            have HFAR := ghid (fun (h : uu + 4 < qq) => HDX.out.symm.trans (answerD_far (x := ⟨xc, xi, uu, i + 1, KS⟩) hqa htk2 h))
            have HTODO := ghid (fun (h : ¬ uu + 4 < qq) => HDX.out.symm.trans (answerD_todo (x := ⟨xc, xi, uu, i + 1, KS⟩) hqa htk2 h))
            clear htk2
            go_quiet (fail)
            rename Nat => nq2
            go_wp2
            go_loopw [15] (fun kv wi => ∃ k m : Nat, k ≤ nf ∧ kv = .int .i64 k ∧ wi = W5.drewN m) (fun kv _ => nf - (intOf kv).toNat)
            case atStart => exact ⟨0, nq2, Nat.zero_le _, rfl, rfl⟩
            case round =>
              obtain ⟨k, m, hkp2, rfl, rfl⟩ := hrel
              by_cases hkn : k < nf
              · obtain ⟨qb, qf, rfl, hqB, hqc⟩ := q4 (by omega)
                obtain ⟨y, hy⟩ : ∃ y, KS[k]? = some y := ⟨_, List.getElem?_eq_getElem (by rw [HNF.out]; omega)⟩
                obtain ⟨c0, c1, c2, c3, -⟩ := hqc k y hy
                have hno := HNE.out k y hy
                clear hy hqc
                obtain ⟨ys, yc, yn, yt⟩ := y
                simp only at c0 c1 c2 c3 hno
                have hne : (ys == qq) = false := by simpa using hno
                go_wp2_with fail
                go_quiet (fail)
                go_wp2
                go_roundw
                case rel => exact ⟨k + 1, _, by omega, by go_num, rfl⟩
                case measure => simp [intOf]; omega
              · by_cases hfar : uu + 4 < qq
                · have ha := HFAR.out hfar
                  simp only [Prod.mk.injEq, ReplyD.mk.injEq] at ha
                  obtain ⟨⟨rfl, rfl, rfl⟩, rfl⟩ := ha
                  clear HFAR HTODO
                  go_wp2_with fail
                  go_quiet (fail)
                  go_wp2
                  refine bodyPost_ret (v := .tuple #[.slice (some ⟨g, 0, none⟩) ls.length gc, .agg #[.int .i64 2, .int .i64 0, .string ⟨#[]⟩], .bool false, .int .i64 0]) (by simp [results, Try.results13, go_sem, s0, s1, s2]) rfl ⟨_, rfl, ?_, ?_⟩
                  · have t := (HO5.out.below (g_drewN_below W5.heap.size W5 (m + nq)) (Nat.le_refl _)).out3 hq1' (.int .i64 2) (.int .i64 0) (.string ⟨#[]⟩)
                    rw [HM.out] at t
                    first
                      | exact t
                      | exact (t.below (Below.refl _ _).drew (Nat.le_refl _)).mono (by simp [World.setCell])
                  · first
                      | exact gbelow3 (HB5.out.trans (g_drewN_below _ _ _)) (by omega) _ _ _
                      | exact (gbelow3 (HB5.out.trans (g_drewN_below _ _ _)) (by omega) _ _ _).drew
                · have ha := HTODO.out (by omega)
                  simp only [Prod.mk.injEq, ReplyD.mk.injEq] at ha
                  obtain ⟨⟨rfl, rfl, rfl⟩, rfl⟩ := ha
                  clear HFAR HTODO
                  go_wp2_with fail
                  go_quiet (fail)
                  go_wp2
                  refine bodyPost_ret (v := .tuple #[.slice (some ⟨g, 0, none⟩) ls.length gc, .agg #[.int .i64 0, .int .i64 0, .string ⟨#[]⟩], .bool true, .int .i64 0]) (by simp [results, Try.results13, go_sem, s0, s1, s2]) rfl ⟨_, rfl, ?_, ?_⟩
                  · have t := (HO5.out.below (g_drewN_below W5.heap.size W5 (m + nq)) (Nat.le_refl _)).out3 hq1' (.int .i64 0) (.int .i64 0) (.string ⟨#[]⟩)
                    rw [HM.out] at t
                    first
                      | exact t
                      | exact (t.below (Below.refl _ _).drew (Nat.le_refl _)).mono (by simp [World.setCell])
                  · first
                      | exact gbelow3 (HB5.out.trans (g_drewN_below _ _ _)) (by omega) _ _ _
                      | exact (gbelow3 (HB5.out.trans (g_drewN_below _ _ _)) (by omega) _ _ _).drew
  · have HMX : Hid (max xa uu = xa) := by unfold Hid; omega
    go_enter Try.func13, Try.ntmps13
    go_wp2_with fail
    rw [← HW0.out]
    refine CR.mono ?_
    rintro e w1 ⟨rfl, hb1⟩
    have hz1 : w.heap.size + 2 ≤ w1.heap.size := by have := hb1.size; omega
    have hz1' : w.heap.size < w1.heap.size := by omega
    have HG1 := ghid ((hb1.block w.heap.size (by omega)).trans HG0.out)
    have HR1 := ghid (HR0.out.below hb1 HR0.out.lt)
    have HB1 := ghid (HB0.out.trans (hb1.mono (by omega)))
    have x3 := cell_of_row w1 w.heap.size 3 _ _ _ HG1.out
    have x4 := cell_of_row w1 w.heap.size 4 _ _ _ HG1.out
    simp only [List.getElem?_toArray, List.getElem?_cons_zero, List.getElem?_cons_succ] at x3 x4
    clear hb1 CR hz0
    go_wp2_with fail
    refine (in_yes qq 1 1048576 _ hq0 hq1).mono ?_
    rintro e w9 ⟨rfl, hw⟩
    subst w9
    go_wp2_with fail
    refine (in_yes uu 0 (qq - 1) _ hu0 hu1).mono ?_
    rintro e w9 ⟨rfl, hw⟩
    subst w9
    go_wp2_with fail
    refine (sessionsCopy_any _ ls w1 B (HV.out.below HB1.out hB) (by have := HB1.out.size; omega)).mono ?_
    rintro e w2 ⟨v2, rs, rfl, hrs, hown2, hb2⟩
    have HG2 := ghid ((hb2.block w.heap.size hz1').trans HG1.out)
    have HR2 := ghid (HR1.out.below hb2 HR1.out.lt)
    have HB2 := ghid (HB1.out.trans (hb2.mono HB1.out.size))
    have HRS := ghid hrs
    have HO2 := ghid hown2
    have hrd := hown2.reads (Nat.le_refl _)
    rw [hrs] at hrd
    have hz12 : w1.heap.size ≤ w2.heap.size := hb2.size
    have hz2' : w.heap.size < w2.heap.size := lt_of_block HG2.out
    have y1 := cell_of_row w2 w.heap.size 1 _ _ _ HG2.out
    have y2 := cell_of_row w2 w.heap.size 2 _ _ _ HG2.out
    have y3 := cell_of_row w2 w.heap.size 3 _ _ _ HG2.out
    have y4 := cell_of_row w2 w.heap.size 4 _ _ _ HG2.out
    simp only [List.getElem?_toArray, List.getElem?_cons_zero, List.getElem?_cons_succ] at y1 y2 y3 y4
    clear hb2 hown2 hrs x3 x4
    go_wp2_with fail
    refine (CP.out _ _ hrd).mono ?_
    rintro e w9 ⟨rfl, hw⟩
    subst w9
    obtain ⟨r0, r1, r2, rf⟩ := HR2.out.cells
    have hq : w.heap.size + 1 < w2.heap.size := HR2.out.lt
    have hq1' : w.heap.size + 1 < w1.heap.size := HR1.out.lt
    clear hrd CP
    obtain ⟨xv, hrn⟩ := map_at HRS.out HX.out
    have HRN := ghid hrn
    have hrl : rs.length = ls.length := by rw [← HRS.out, List.length_map]
    obtain ⟨g, gc, hge, hgb, hgl, -⟩ := grow_some HO2.out.row (by omega)
    subst hge
    rw [hrl] at HO2 ⊢
    obtain ⟨d0, d1, d2, d3, d4⟩ := HO2.out.cells hrn
    have df := HO2.out.frozenAt
    simp only at d0 d1 d2 d3 d4
    have hnl : (n : Int) < ls.length := by omega
    have hn0 : ¬ (n : Int) < 0 := by omega
    have hn1 : decide ((n : Int) < 0) = false := by simp
    have hg1 : g ≠ w.heap.size := by omega
    have hg2 : w.heap.size ≠ g := by omega
    have hg3 : g ≠ w.heap.size + 1 := by omega
    have hg4 : w.heap.size + 1 ≠ g := by omega
    clear hrn hrl
    go_wp2_with fail
    go_quiet (fail)
    rename Nat => nq1
    go_wp2_with fail
    go_quiet (fail)
    go_wp2
    obtain ⟨W4, hW4⟩ : ∃ W4 : World, W4 = ((w2.drewN nq1).setCell ⟨g, n * 5 + 3, none⟩ (.int .i64 (i + 1))).drewN nq := ⟨_, rfl⟩
    rw [← hW4]
    have hil : n < rs.length := (List.getElem?_eq_some_iff.1 HRN.out).1
    have HO4 : Hid (OwnS W4 w1.heap.size (.slice (some ⟨g, 0, none⟩) ls.length gc) (rs.set n ((⟨xc, xi, xa, i + 1, xk⟩ : SessD), xv))) := by
      have h1 := (HO2.out.below (g_drewN_below w2.heap.size w2 nq1) (Nat.le_refl _)).setLast HRN.out (i + 1)
      rw [hW4]
      exact h1.below (g_drewN_below _ _ nq) (Nat.le_refl _)
    have HT4 : Hid (Below w1.heap.size w2 W4) := by
      unfold Hid
      rw [hW4]
      exact ((g_drewN_below w1.heap.size w2 nq1).setCell (by show w1.heap.size ≤ g; omega) _).trans (g_drewN_below _ _ _)
    clear hW4 d0 d1 d2 d3 d4 df y1 y2 y3 y4 r0 r1 r2 rf
    have hri : (rs.set n ((⟨xc, xi, xa, i + 1, xk⟩ : SessD), xv))[n]? = some (⟨xc, xi, xa, i + 1, xk⟩, xv) := List.getElem?_set_self hil
    obtain ⟨d0, d1, d2, d3, d4⟩ := HO4.out.cells hri
    have df := HO4.out.frozenAt
    simp only at d0 d1 d2 d3 d4
    have HRI := ghid hri
    have HB4 := ghid (HB2.out.trans (HT4.out.mono (by omega)))
    have HR4 := ghid (HR2.out.below HT4.out (by omega))
    have HG4 := ghid ((HT4.out.block w.heap.size (by omega)).trans HG2.out)
    have hz4 : w2.heap.size ≤ W4.heap.size := HT4.out.size
    have hg4l : g < W4.heap.size := by omega
    have HKR := ghid ((HO4.out.reps.each _ (List.mem_of_getElem? hri)).reads (Nat.le_refl _))
    simp only at HKR
    have hkr := HKR.out
    obtain ⟨lo, lc, rfl, k1, k2, k3, k4⟩ := hkr
    have y3 := cell_of_row W4 w.heap.size 3 _ _ _ HG4.out
    simp only [List.getElem?_toArray, List.getElem?_cons_zero, List.getElem?_cons_succ] at y3
    have hw4 : w.heap.size < W4.heap.size := by omega
    obtain ⟨i0, hi, hz0, hz1q, hz2⟩ := info_parts Try.infoKept
    clear hri
    go_loopw [13, 14] (fun o kv wr => ∃ (k : Nat), k ≤ xk.length ∧ kv = .int .i64 k ∧ wr.ownsRow W4.heap.size 54 4 o ((xk.take k).filter fun e => !decide (e.seq ≤ xa)).length (flatG keptCells ((xk.take k).filter fun e => !decide (e.seq ≤ xa))) ∧ Below W4.heap.size W4 wr)
      (fun _ kv _ => xk.length - (intOf kv).toNat)
    case atStart => exact ⟨0, Nat.zero_le _, rfl, by simpa [flatG] using World.ownsRow_nil _ _ _ _, Below.refl _ _⟩
    case round =>
      obtain ⟨k, hkp, rfl, hrow, hb⟩ := hrel
      have hsz := hb.size
      have HR := ghid hrow
      have HB := ghid hb
      have f4 : wr.cell? ⟨g, n * 5 + 4, none⟩ = some (.slice lo xk.length lc) := (hb.cell (p := ⟨g, n * 5 + 4, none⟩) hg4l).trans d4
      have f2 : wr.cell? ⟨g, n * 5 + 2, none⟩ = some (.int .i64 xa) := (hb.cell (p := ⟨g, n * 5 + 2, none⟩) hg4l).trans d2
      have hgr : g < wr.heap.size := by omega
      have hfl : ((xk.take k).filter fun e => !decide (e.seq ≤ xa)).length ≤ k := Nat.le_trans (List.length_filter_le _ _) (by rw [List.length_take]; omega)
      obtain ⟨oo, oc, rfl⟩ := grow_shape hrow
      obtain ⟨nf, hnf⟩ : ∃ nf, nf = ((xk.take k).filter fun e => !decide (e.seq ≤ xa)).length := ⟨_, rfl⟩
      rw [← hnf] at HR hfl ⊢
      have HNF := ghid hnf.symm
      by_cases hlt2 : k < xk.length
      · obtain ⟨kb, kf, rfl, hkB, hkc⟩ := k4 (by omega)
        obtain ⟨y, hy⟩ : ∃ y, xk[k]? = some y := ⟨_, List.getElem?_eq_getElem hlt2⟩
        obtain ⟨c0, c1, c2, c3, -⟩ := (hkc k y hy).below hkB hb
        have HS := ghid (filter_succ (fun e : KeptD => !decide (e.seq ≤ xa)) xk k y hy)
        obtain ⟨xs, xd, xn, xx⟩ := y
        simp only at c0 c1 c2 c3 HS
        have hkbr : kb < wr.heap.size := by omega
        have hnf4 : nf ≤ 4 := by omega
        clear hrow hb hy hkc hnf
        by_cases hsm : xs ≤ xa
        · have hsm2 : ¬ xa < xs := by omega
          have HN : Hid ((xk.take (k + 1)).filter (fun e => !decide (e.seq ≤ xa)) = (xk.take k).filter fun e => !decide (e.seq ≤ xa)) := by
            have := HS.out
            simp only [decide_eq_true hsm, Bool.not_true, if_false, List.append_nil, Bool.false_eq_true] at this
            exact this
          clear HS
          go_wp2_with fail
          go_quiet (fail)
          go_wp2
          go_roundw
          case rel => exact ⟨k + 1, by omega, by go_num, by rw [HN.out, HNF.out]; exact grow_below HR.out (g_drewN_below _ _ _) (Nat.le_refl _), HB.out.trans (g_drewN_below _ _ _)⟩
          case measure => simp [intOf]; omega
        · have hsm2 : xa < xs := by omega
          have HN : Hid ((xk.take (k + 1)).filter (fun e => !decide (e.seq ≤ xa)) = ((xk.take k).filter fun e => !decide (e.seq ≤ xa)) ++ [(⟨xs, xd, xn, xx⟩ : KeptD)]) := by
            have := HS.out
            simp only [decide_eq_false hsm, Bool.not_false, if_true] at this
            exact this
          clear HS
          go_wp2_with fail
          go_quiet (fail)
          have HBE := ghid (HB.out.trans (g_drewN_below W4.heap.size wr nq))
          have HRE : Hid ((wr.drewN nq).ownsRow W4.heap.size 54 4 (.slice oo nf oc) nf (flatG keptCells ((xk.take k).filter fun e => !decide (e.seq ≤ xa)))) := grow_below HR.out (g_drewN_below _ _ _) (Nat.le_refl _)
          obtain ⟨Wa, hWa⟩ : ∃ Wa, Wa = (wr.drewN nq).alloc (.cells #[.int .i64 xs, .int .i64 xd, .int .i64 xn, .string xx] 54) := ⟨_, rfl⟩
          have HAa : Hid (Below (wr.drewN nq).heap.size (wr.drewN nq) Wa) := by unfold Hid; rw [hWa]; exact (Below.refl _ _).alloc (Nat.le_refl _) _
          have HROWa : Hid (Wa.ownsRow W4.heap.size 54 4 (.slice oo nf oc) nf (flatG keptCells (((xk.take k).filter fun e => !decide (e.seq ≤ xa))))) := grow_below HRE.out HAa.out (Nat.le_refl _)
          have HNEWa : Hid (∀ j u, (keptCells (⟨xs, xd, xn, xx⟩ : KeptD))[j]? = some u → Wa.cell? ((⟨wr.heap.size, 0, none⟩ : Addr).add j) = some u) := by
            unfold Hid
            rw [hWa]
            exact World.news_of_block (kheap_at (wr.drewN nq) _ _ (by simp))
          have hza : W4.heap.size ≤ Wa.heap.size := Nat.le_trans hsz HAa.out.size
          have HWa := ghid hWa
          clear hWa
          go_wp2_with (at_builtin; refine wpList_append_lies _ rfl (.tmp 109) (.tmp 118) 49 rfl W4.heap.size 54 i0 _ 4 40 Try.underlying49 hi hz0 hz1q hz2 rfl (by decide) (.slice oo nf oc) nf (flatG keptCells (((xk.take k).filter fun e => !decide (e.seq ≤ xa)))) rfl (by rw [← HWa.out]; exact HROWa.out) ⟨wr.heap.size, 0, none⟩ 1 1 (keptCells (⟨xs, xd, xn, xx⟩ : KeptD)) rfl rfl (by rw [← HWa.out]; exact HNEWa.out) (keptCells_one _) (by omega) (by unfold maxLen; omega) (by omega) (by rw [← HWa.out]; exact hza) _ rfl ?_)
          intro ga ca w5 howna hga hata hlta
          rw [← HWa.out] at hga
          have HRa : Hid (w5.ownsRow W4.heap.size 54 4 (.slice (some ⟨ga, 0, none⟩) (nf + 1) ca) (nf + 1) (flatG keptCells (((xk.take k).filter fun e => !decide (e.seq ≤ xa)) ++ [(⟨xs, xd, xn, xx⟩ : KeptD)]))) := by
            unfold Hid
            rw [flatG_snoc]
            exact howna
          have hba := (HBE.out.trans (HAa.out.mono hsz)).grown hga hza (fun c hc => (HRE.out.lt c hc).1)
          have HBa := ghid hba
          have hsza := hba.size
          have kxa : ∀ b o, b < W4.heap.size → w5.cell? ⟨b, o, none⟩ = W4.cell? ⟨b, o, none⟩ := fun b o h => hba.cell (p := ⟨b, o, none⟩) h
          clear howna hga hata hlta hba HROWa HNEWa
          have HL : Hid (((xk.take (k + 1)).filter fun e => !decide (e.seq ≤ xa)).length = nf + 1) := by unfold Hid; rw [HN.out, List.length_append, HNF.out]; rfl
          go_wp2
          go_roundw
          case rel => exact ⟨k + 1, by omega, by go_num, by rw [HL.out, HN.out]; exact HRa.out, HBa.out⟩
          case measure => simp [intOf]; omega
      · skip
        have hke : k = xk.length := by omega
        subst hke
        have htk : xk.take xk.length = xk := List.take_of_length_le (Nat.le_refl _)
        rw [htk] at HR HNF
        obtain ⟨KS, hKS⟩ : ∃ KS, KS = xk.filter fun e => !decide (e.seq ≤ xa) := ⟨_, rfl⟩
        rw [← hKS] at HR HNF
        have HHD : Hid (hearD ⟨xc, xi, xa, xt, xk⟩ (i + 1) uu = ⟨xc, xi, xa, i + 1, KS⟩) := by
          unfold Hid hearD
          simp only
          rw [HMX.out, hKS]
        have HDX : Hid (answerD ⟨xc, xi, xa, i + 1, KS⟩ qq = (⟨rc, rn, rt⟩, rb)) := by unfold Hid; rw [← HHD.out]; exact HD.out
        have HKO : Hid (KS.Pairwise (fun a b => a.seq < b.seq)) := by unfold Hid; rw [hKS]; exact HORD.out.sublist List.filter_sublist
        have hmod : ModestK KS := fun e he => HKR.out.modest e (by rw [hKS] at he; exact (List.mem_filter.1 he).1)
        have hos := HO4.out.setReplies (ks := KS) HRI.out (TouchG.of_below hb (Nat.le_refl _) _) ⟨by rw [HNF.out]; exact grow_mono HR.out (by omega), by rw [HNF.out]; omega, hmod⟩ (fun b hb' => Or.inr (HR.out.lt b hb').1)
        rw [List.set_set] at hos
        simp only at hos
        have ff := (hb.frozen (p := ⟨g, n * 5 + 4, none⟩) hg4l).trans (df _)
        obtain ⟨W5, hW5⟩ : ∃ W5, W5 = wr.setCell ⟨g, n * 5 + 4, none⟩ (.slice oo nf oc) := ⟨_, rfl⟩
        rw [← hW5] at hos
        have hbW : Below w1.heap.size W4 W5 := by rw [hW5]; exact Below.setCell (hb.mono (by omega)) hgb _
        have HB5 := ghid (HB4.out.trans (hbW.mono (by omega)))
        have HR5 := ghid (HR4.out.below hbW (by omega))
        have HG5 := ghid ((hbW.block w.heap.size (by omega)).trans HG4.out)
        have HO5 := ghid hos
        have hri5 : (rs.set n ((⟨xc, xi, xa, i + 1, KS⟩ : SessD), Value.slice oo nf oc))[n]? = some (⟨xc, xi, xa, i + 1, KS⟩, .slice oo nf oc) := List.getElem?_set_self hil
        obtain ⟨p0, p1, p2, p3, p4⟩ := hos.cells hri5
        simp only at p0 p1 p2 p3 p4
        have HKR5 := ghid ((hos.reps.each _ (List.mem_of_getElem? hri5)).reads (Nat.le_refl _))
        simp only at HKR5
        have HOK5 := ghid (hos.reps.each _ (List.mem_of_getElem? hri5))
        simp only at HOK5
        have hkr5 := HKR5.out
        obtain ⟨ao5, cap5, hve5, q1, q2, q3, q4⟩ := hkr5
        simp only [Value.slice.injEq] at hve5
        obtain ⟨rfl, -, rfl⟩ := hve5
        rw [HNF.out] at q1 q4
        have z3 := cell_of_row W5 w.heap.size 3 _ _ _ HG5.out
        simp only [List.getElem?_toArray, List.getElem?_cons_zero, List.getElem?_cons_succ] at z3
        obtain ⟨s0, s1, s2, sf⟩ := HR5.out.cells
        have hq5 : w.heap.size + 1 < W5.heap.size := HR5.out.lt
        have hq6 : w.heap.size < W5.heap.size := by omega
        have hg5l : g < W5.heap.size := hos.block.2
        have HW5 := ghid hW5
        have HM : Hid ((rs.set n ((⟨xc, xi, xa, i + 1, KS⟩ : SessD), Value.slice oo nf oc)).map (·.1) = ls.set n (hearD ⟨xc, xi, xa, xt, xk⟩ (i + 1) uu)) := by
          unfold Hid
          rw [List.map_set, HRS.out, HHD.out]
        clear hos hbW hri5 hW5 htk hKS hrow hb hnf hi hz0 hz1q hz2
        go_wp2_with fail
        rw [← HW5.out]
        clear f4 f2 d0 d1 d2 d3 d4 df ff y3
        by_cases hqa : qq ≤ xa
        · have ha := HDX.out.symm.trans (answerD_old (x := ⟨xc, xi, xa, i + 1, KS⟩) hqa)
          simp only [Prod.mk.injEq, ReplyD.mk.injEq] at ha
          obtain ⟨⟨rfl, rfl, rfl⟩, rfl⟩ := ha
          go_quiet (fail)
          go_wp2
          refine bodyPost_ret (v := .tuple #[.slice (some ⟨g, 0, none⟩) ls.length gc, .agg #[.int .i64 12, .int .i64 0, .string ⟨#[]⟩], .bool false, .int .i64 0]) (by simp [results, Try.results13, go_sem, s0, s1, s2]) rfl ⟨_, rfl, ?_, ?_⟩
          · have t := (HO5.out.below (g_drewN_below W5.heap.size W5 nq) (Nat.le_refl _)).out3 hq1' (.int .i64 12) (.int .i64 0) (.string ⟨#[]⟩)
            rw [HM.out] at t
            first
              | exact t
              | exact (t.below (Below.refl _ _).drew (Nat.le_refl _)).mono (by simp [World.setCell])
          · first
              | exact gbelow3 (HB5.out.trans (g_drewN_below _ _ _)) (by omega) _ _ _
              | exact (gbelow3 (HB5.out.trans (g_drewN_below _ _ _)) (by omega) _ _ _).drew
        · cases htk2 : thereK KS qq with
          | true =>
            obtain ⟨k0, hk0, hk0q⟩ := thereK_some htk2
            have ha := HDX.out.symm.trans (answerD_kept (x := ⟨xc, xi, xa, i + 1, KS⟩) hqa htk2 hk0)
            simp only [Prod.mk.injEq, ReplyD.mk.injEq] at ha
            obtain ⟨⟨rfl, rfl, rfl⟩, rfl⟩ := ha
            have hpl : placeK KS qq < KS.length := (List.getElem?_eq_some_iff.1 hk0).1
            rw [HNF.out] at hpl
            have HLOW : Hid (∀ (j : Nat) (y : KeptD), j < placeK KS qq → KS[j]? = some y → y.seq < qq) := fun j y hj hy => placeK_before hj hy
            obtain ⟨p, hpe⟩ : ∃ p, p = placeK KS qq := ⟨_, rfl⟩
            rw [← hpe] at hk0 hpl HLOW
            have HK0 := ghid hk0
            clear hpe hk0 htk2
            go_quiet (fail)
            rename Nat => nq2
            go_wp2
            go_loopw [15] (fun kv wi => ∃ k m : Nat, k ≤ p ∧ kv = .int .i64 k ∧ wi = W5.drewN m) (fun kv _ => nf - (intOf kv).toNat)
            case atStart => exact ⟨0, nq2, Nat.zero_le _, rfl, rfl⟩
            case round =>
              obtain ⟨k, m, hkp2, rfl, rfl⟩ := hrel
              have hkn : k < nf := by omega
              obtain ⟨qb, qf, rfl, hqB, hqc⟩ := q4 (by omega)
              obtain ⟨y, hy⟩ : ∃ y, KS[k]? = some y := ⟨_, List.getElem?_eq_getElem (by rw [HNF.out]; omega)⟩
              obtain ⟨c0, c1, c2, c3, -⟩ := hqc k y hy
              have HY := ghid hy
              clear hy hqc
              by_cases hkpe : k = p
              · have e : y = k0 := by
                  subst hkpe
                  have := HY.out.symm.trans HK0.out
                  simpa using this
                subst e
                obtain ⟨ys, yc, yn, yt⟩ := y
                simp only at c0 c1 c2 c3 hk0q ⊢
                subst hk0q
                have hqb1 : qb ≠ w.heap.size + 1 := by
                  have := (HOK5.out.row.lt qb rfl).1
                  omega
                clear hkpe
                go_wp2_with fail
                go_quiet (fail)
                go_wp2_with fail
                go_region
                all_goals
                  go_wp2
                  refine bodyPost_ret (v := .tuple #[.slice (some ⟨g, 0, none⟩) ls.length gc, .agg #[.int .i64 yc, .int .i64 yn, .string yt], .bool false, .int .i64 0]) (by simp [results, Try.results13, go_sem, s0, s1, s2]) rfl ⟨_, rfl, ?_, ?_⟩
                  · have t := (HO5.out.below (g_drewN_below W5.heap.size W5 (m + nq)) (Nat.le_refl _)).out3 hq1' (.int .i64 yc) (.int .i64 yn) (.string yt)
                    rw [HM.out] at t
                    first
                      | exact t
                      | exact (t.below (Below.refl _ _).drew (Nat.le_refl _)).mono (by simp [World.setCell])
                  · first
                      | exact gbelow3 (HB5.out.trans (g_drewN_below _ _ _)) (by omega) _ _ _
                      | exact (gbelow3 (HB5.out.trans (g_drewN_below _ _ _)) (by omega) _ _ _).drew
              · have hlo := HLOW.out k _ (by omega) HY.out
                obtain ⟨ys, yc, yn, yt⟩ := y
                simp only at c0 c1 c2 c3 hlo
                have hne : (ys == qq) = false := by simpa using (show ¬ ys = qq by omega)
                go_wp2_with fail
                go_quiet (fail)
                go_wp2
                go_roundw
                case rel => exact ⟨k + 1, _, by omega, by go_num, rfl⟩
                case measure => simp [intOf]; omega
          | false =>
            have HNE : Hid (∀ (j : Nat) (y : KeptD), KS[j]? = some y → ¬ y.seq = qq) := by
              intro j y hy
              by_cases h : j < placeK KS qq
              · have := placeK_before h hy; omega
              · have := placeK_above HKO.out htk2 (by omega) hy; omega
            have HFAR := ghid (fun (h : xa + 4 < qq) => HDX.out.symm.trans (answerD_far (x := ⟨xc, xi, xa, i + 1, KS⟩) hqa htk2 h))
            have HTODO := ghid (fun (h : ¬ xa + 4 < qq) => HDX.out.symm.trans (answerD_todo (x := ⟨xc, xi, xa, i + 1, KS⟩) hqa htk2 h))
            clear htk2
            go_quiet (fail)
            rename Nat => nq2
            go_wp2
            go_loopw [15] (fun kv wi => ∃ k m : Nat, k ≤ nf ∧ kv = .int .i64 k ∧ wi = W5.drewN m) (fun kv _ => nf - (intOf kv).toNat)
            case atStart => exact ⟨0, nq2, Nat.zero_le _, rfl, rfl⟩
            case round =>
              obtain ⟨k, m, hkp2, rfl, rfl⟩ := hrel
              by_cases hkn : k < nf
              · obtain ⟨qb, qf, rfl, hqB, hqc⟩ := q4 (by omega)
                obtain ⟨y, hy⟩ : ∃ y, KS[k]? = some y := ⟨_, List.getElem?_eq_getElem (by rw [HNF.out]; omega)⟩
                obtain ⟨c0, c1, c2, c3, -⟩ := hqc k y hy
                have hno := HNE.out k y hy
                clear hy hqc
                obtain ⟨ys, yc, yn, yt⟩ := y
                simp only at c0 c1 c2 c3 hno
                have hne : (ys == qq) = false := by simpa using hno
                go_wp2_with fail
                go_quiet (fail)
                go_wp2
                go_roundw
                case rel => exact ⟨k + 1, _, by omega, by go_num, rfl⟩
                case measure => simp [intOf]; omega
              · by_cases hfar : xa + 4 < qq
                · have ha := HFAR.out hfar
                  simp only [Prod.mk.injEq, ReplyD.mk.injEq] at ha
                  obtain ⟨⟨rfl, rfl, rfl⟩, rfl⟩ := ha
                  clear HFAR HTODO
                  go_wp2_with fail
                  go_quiet (fail)
                  go_wp2
                  refine bodyPost_ret (v := .tuple #[.slice (some ⟨g, 0, none⟩) ls.length gc, .agg #[.int .i64 2, .int .i64 0, .string ⟨#[]⟩], .bool false, .int .i64 0]) (by simp [results, Try.results13, go_sem, s0, s1, s2]) rfl ⟨_, rfl, ?_, ?_⟩
                  · have t := (HO5.out.below (g_drewN_below W5.heap.size W5 (m + nq)) (Nat.le_refl _)).out3 hq1' (.int .i64 2) (.int .i64 0) (.string ⟨#[]⟩)
                    rw [HM.out] at t
                    first
                      | exact t
                      | exact (t.below (Below.refl _ _).drew (Nat.le_refl _)).mono (by simp [World.setCell])
                  · first
                      | exact gbelow3 (HB5.out.trans (g_drewN_below _ _ _)) (by omega) _ _ _
                      | exact (gbelow3 (HB5.out.trans (g_drewN_below _ _ _)) (by omega) _ _ _).drew
                · have ha := HTODO.out (by omega)
                  simp only [Prod.mk.injEq, ReplyD.mk.injEq] at ha
                  obtain ⟨⟨rfl, rfl, rfl⟩, rfl⟩ := ha
                  clear HFAR HTODO
                  go_wp2_with fail
                  go_quiet (fail)
                  go_wp2
                  refine bodyPost_ret (v := .tuple #[.slice (some ⟨g, 0, none⟩) ls.length gc, .agg #[.int .i64 0, .int .i64 0, .string ⟨#[]⟩], .bool true, .int .i64 0]) (by simp [results, Try.results13, go_sem, s0, s1, s2]) rfl ⟨_, rfl, ?_, ?_⟩
                  · have t := (HO5.out.below (g_drewN_below W5.heap.size W5 (m + nq)) (Nat.le_refl _)).out3 hq1' (.int .i64 0) (.int .i64 0) (.string ⟨#[]⟩)
                    rw [HM.out] at t
                    first
                      | exact t
                      | exact (t.below (Below.refl _ _).drew (Nat.le_refl _)).mono (by simp [World.setCell])
                  · first
                      | exact gbelow3 (HB5.out.trans (g_drewN_below _ _ _)) (by omega) _ _ _
                      | exact (gbelow3 (HB5.out.trans (g_drewN_below _ _ _)) (by omega) _ _ _).drew
end Go.Proofs.Ytmcdbdcabiccnaf
