/- session.Ready. (Written by gen_ready.py.) (joined by program) -/
import Derived.Deep.DeepCutAuto
import Derived.Deep.RegionWith
import Derived.Test.YtijilhbdbeajjaaGreatDoorTT02
import Derived.Test.YtijilhbdbeajjaaGreatDoorTT18
import Derived.Test.YtijilhbdbeajjaaGreatDoorTT21
import Derived.Test.YtijilhbdbeajjaaGreatDoorTT22
import Derived.Test.YtijilhbdbeajjaaGreatDoorTT09
namespace Go.Proofs.YtijilhbdbeajjaaGreatDoor

open Go.RowKit

set_option maxRecDepth 100000 in
set_option maxHeartbeats 6400000 in
theorem Ready_ok (v : Value) (ls : List SessD) (i kk cc ss qq uu ok : Int) (aa bb : ByteArray) (nn : Int) (w : World) (B : Nat) (hv : SessR w B v ls) (hB : B ≤ w.heap.size) (hr : readyE ls i qq uu = 0) :
    Calls Tryz.prog 27 #[v, .int .i64 i, .agg #[.int .i64 kk, .int .i64 cc, .int .i64 ss, .int .i64 qq, .int .i64 uu, .int .i64 ok, .string aa, .string bb, .int .i64 nn]] w fun e w' => ∃ v', e = .returned (.tuple #[v', .agg #[.int .i64 (readyS ls i cc ss qq uu).2.1.code, .int .i64 (readyS ls i cc ss qq uu).2.1.n, .string (readyS ls i cc ss qq uu).2.1.text], .bool (readyS ls i cc ss qq uu).2.2, .int .i64 0]) ∧ SessR w' w'.heap.size v' (readyS ls i cc ss qq uu).1 ∧ Below w.heap.size w w' := by
  obtain ⟨W0, hW0⟩ : ∃ W0, W0 = (w.alloc (.cells #[.int .i64 kk, .int .i64 cc, .int .i64 ss, .int .i64 qq, .int .i64 uu, .int .i64 ok, .string aa, .string bb, .int .i64 nn] 67)).alloc (.cells #[.int .i64 0, .int .i64 0, .string ⟨#[]⟩] 73) := ⟨_, rfl⟩
  have hb0 : Below w.heap.size w W0 := by rw [hW0]; exact ((Below.refl _ _).alloc (Nat.le_refl _) _).alloc (by simp) _
  have hz0 : W0.heap.size = w.heap.size + 2 := by rw [hW0]; simp
  have HG0 : Hid (W0.heap[w.heap.size]? = some (.cells #[.int .i64 kk, .int .i64 cc, .int .i64 ss, .int .i64 qq, .int .i64 uu, .int .i64 ok, .string aa, .string bb, .int .i64 nn] 67 (0, 0))) := by
    unfold Hid; rw [hW0]; exact (Below.heap_alloc _ _ _ (by simp)).trans (heap_alloc_new w _)
  have HR0 : Hid (GReply W0 (w.heap.size + 1)) := by
    unfold Hid; rw [hW0]
    have := GReply.new (w.alloc (.cells #[.int .i64 kk, .int .i64 cc, .int .i64 ss, .int .i64 qq, .int .i64 uu, .int .i64 ok, .string aa, .string bb, .int .i64 nn] 67))
    simpa using this
  have CR := sessCheck_any v ls i W0 B (hv.below hb0 hB) (by omega)
  have HW0 := ghid hW0
  have HB0 := ghid hb0
  clear hb0 hW0
  obtain ⟨h1, h3, ⟨hq0, hq1⟩, hu0, hu1⟩ := readyE_zero hr
  have HGD := ghid (checkS_zero h1)
  have hi0 := HGD.out.low
  have hi1 := HGD.out.high
  rw [h1] at CR
  have HV := ghid hv
  have CP := ghid (fun u w' hu => splace_any u ls cc w' w'.heap.size hu (Nat.le_refl _))
  have hin := placeS_le ls cc
  have hine : (i == 1073741824) = false := by simpa using h3
  obtain ⟨ao, cap, rfl, -⟩ := hv
  cases ht : thereS ls cc with
  | false =>
    rw [readyS_away ht]
    rw [ht] at CP
    obtain ⟨n, hne⟩ : ∃ n, n = placeS ls cc := ⟨_, rfl⟩
    rw [← hne] at CP hin
    simp only
    clear hne ht hr h1 h3
    go_enter Tryz.func27, Tryz.ntmps27
    go_wp2_with fail
    rw [← HW0.out]
    refine CR.mono ?_
    rintro e w1 ⟨rfl, hb1⟩
    have hz1 : w.heap.size + 2 ≤ w1.heap.size := by have := hb1.size; omega
    have hz1' : w.heap.size < w1.heap.size := by omega
    have HG1 := ghid ((hb1.block w.heap.size (by omega)).trans HG0.out)
    have HR1 := ghid (HR0.out.below hb1 HR0.out.lt)
    have HB1 := ghid (HB0.out.trans (hb1.mono (by omega)))
    have x3 := cell_of_row w1 w.heap.size 3 _ _ _ HG1.out
    have x4 := cell_of_row w1 w.heap.size 4 _ _ _ HG1.out
    simp only [List.getElem?_toArray, List.getElem?_cons_zero, List.getElem?_cons_succ] at x3 x4
    clear hb1 CR hz0
    go_wp2_with fail
    refine (swithin_yes qq 1 1048576 _ hq0 hq1).mono ?_
    rintro e w9 ⟨rfl, hw⟩
    subst w9
    go_wp2_with fail
    refine (swithin_yes uu 0 (qq - 1) _ hu0 hu1).mono ?_
    rintro e w9 ⟨rfl, hw⟩
    subst w9
    go_wp2_with fail
    refine (sessCopy_any _ ls w1 B (HV.out.below HB1.out hB) (by have := HB1.out.size; omega)).mono ?_
    rintro e w2 ⟨rfl, rs, hrs, hown2, hsn, hb2⟩
    have HG2 := ghid ((hb2.block w.heap.size hz1').trans HG1.out)
    have HR2 := ghid (HR1.out.below hb2 HR1.out.lt)
    have HB2 := ghid (HB1.out.trans (hb2.mono HB1.out.size))
    have HRS := ghid hrs
    have HSN := ghid hsn
    have HO2 := ghid hown2
    have hrd := hown2.reads (Nat.le_refl _)
    rw [hrs] at hrd
    have hz2' : w.heap.size < w2.heap.size := lt_of_block HG2.out
    have y1 := cell_of_row w2 w.heap.size 1 _ _ _ HG2.out
    simp only [List.getElem?_toArray, List.getElem?_cons_zero, List.getElem?_cons_succ] at y1
    clear hb2 hown2 hrs hsn x3 x4
    go_wp2_with fail
    refine (CP.out _ _ hrd).mono ?_
    rintro e w3 ⟨rfl, hb3⟩
    have HG3 := ghid ((hb3.block w.heap.size hz2').trans HG2.out)
    have HR3 := ghid (HR2.out.below hb3 HR2.out.lt)
    have HB3 := ghid (HB2.out.trans (hb3.mono HB2.out.size))
    have HO3 := ghid (HO2.out.below hb3 (Nat.le_refl _))
    obtain ⟨r0, r1, r2, rf⟩ := HR3.out.cells
    have x2 := cell_of_row w3 w.heap.size 2 _ _ _ HG3.out
    have x3 := cell_of_row w3 w.heap.size 3 _ _ _ HG3.out
    have x4 := cell_of_row w3 w.heap.size 4 _ _ _ HG3.out
    simp only [List.getElem?_toArray, List.getElem?_cons_zero, List.getElem?_cons_succ] at x2 x3 x4
    have hq : w.heap.size + 1 < w3.heap.size := HR3.out.lt
    have hz3' : w.heap.size < w3.heap.size := by omega
    have hq1' : w.heap.size + 1 < w1.heap.size := HR1.out.lt
    have hq2 : w1.heap.size < w3.heap.size := HO3.out.block.2
    have hq3 : w.heap.size ≠ w1.heap.size := by omega
    have hq4 : w1.heap.size ≠ w.heap.size := by omega
    have hq5 : w.heap.size + 1 ≠ w1.heap.size := by omega
    have hq6 : w1.heap.size ≠ w.heap.size + 1 := by omega
    clear hb3 hrd CP HO2 y1
    go_wp2_with fail
    go_quiet (fail)
    go_wp2
    refine bodyPost_ret (v := .tuple #[.slice (some ⟨w1.heap.size, 0, none⟩) ls.length ls.length, .agg #[.int .i64 11, .int .i64 0, .string ⟨#[]⟩], .bool false, .int .i64 0]) (by simp [results, Tryz.results27, go_sem, r0, r1, r2]) rfl ⟨_, rfl, ?_, ?_⟩
    · have t := (HO3.out.below (g_drewN_below w3.heap.size w3 nq) (Nat.le_refl _)).out3 hq1' (.int .i64 11) (.int .i64 0) (.string ⟨#[]⟩)
      rw [HRS.out] at t
      exact t
    · exact gbelow3 (HB3.out.trans (g_drewN_below _ _ _)) (by omega) _ _ _
  | true =>
    obtain ⟨x, hx, -⟩ := thereS_some ht
    rw [ht] at CP
    have hlt : placeS ls cc < ls.length := (List.getElem?_eq_some_iff.1 hx).1
    by_cases hid : x.id = ss
    · rw [readyS_here ht hx hid]
      have hrg := rangeB_iff.1 (HGD.out.fine x (List.mem_of_getElem? hx)).range
      obtain ⟨n, hne⟩ : ∃ n, n = placeS ls cc := ⟨_, rfl⟩
      rw [← hne] at CP hx hin hlt ⊢
      have HX := ghid hx
      obtain ⟨xc, xi, xa, xt, xk⟩ := x
      simp only at hid hrg ⊢
      subst hid
      have hxa0 : 0 ≤ xa := hrg.2.2.1
      have hxa1 : xa ≤ 1048576 := hrg.2.2.2.1
      obtain ⟨rc, rn, rt, rb, hD⟩ : ∃ rc rn rt rb, answerD (hearD ⟨xc, xi, xa, xt, xk⟩ (i + 1) uu) qq = (⟨rc, rn, rt⟩, rb) := ⟨_, _, _, _, rfl⟩
      rw [hD]
      have HD := ghid hD
      simp only
      clear hne ht hr h1 h3 hx hrg hD
      go_enter Tryz.func27, Tryz.ntmps27
      go_wp2_with fail
      rw [← HW0.out]
      refine CR.mono ?_
      rintro e w1 ⟨rfl, hb1⟩
      have hz1 : w.heap.size + 2 ≤ w1.heap.size := by have := hb1.size; omega
      have hz1' : w.heap.size < w1.heap.size := by omega
      have HG1 := ghid ((hb1.block w.heap.size (by omega)).trans HG0.out)
      have HR1 := ghid (HR0.out.below hb1 HR0.out.lt)
      have HB1 := ghid (HB0.out.trans (hb1.mono (by omega)))
      have x3 := cell_of_row w1 w.heap.size 3 _ _ _ HG1.out
      have x4 := cell_of_row w1 w.heap.size 4 _ _ _ HG1.out
      simp only [List.getElem?_toArray, List.getElem?_cons_zero, List.getElem?_cons_succ] at x3 x4
      clear hb1 CR hz0
      go_wp2_with fail
      refine (swithin_yes qq 1 1048576 _ hq0 hq1).mono ?_
      rintro e w9 ⟨rfl, hw⟩
      subst w9
      go_wp2_with fail
      refine (swithin_yes uu 0 (qq - 1) _ hu0 hu1).mono ?_
      rintro e w9 ⟨rfl, hw⟩
      subst w9
      go_wp2_with fail
      refine (sessCopy_any _ ls w1 B (HV.out.below HB1.out hB) (by have := HB1.out.size; omega)).mono ?_
      rintro e w2 ⟨rfl, rs, hrs, hown2, hsn, hb2⟩
      have HG2 := ghid ((hb2.block w.heap.size hz1').trans HG1.out)
      have HR2 := ghid (HR1.out.below hb2 HR1.out.lt)
      have HB2 := ghid (HB1.out.trans (hb2.mono HB1.out.size))
      have HRS := ghid hrs
      have HSN := ghid hsn
      have HO2 := ghid hown2
      have hrd := hown2.reads (Nat.le_refl _)
      rw [hrs] at hrd
      have hz2' : w.heap.size < w2.heap.size := lt_of_block HG2.out
      have y1 := cell_of_row w2 w.heap.size 1 _ _ _ HG2.out
      simp only [List.getElem?_toArray, List.getElem?_cons_zero, List.getElem?_cons_succ] at y1
      clear hb2 hown2 hrs hsn x3 x4
      go_wp2_with fail
      refine (CP.out _ _ hrd).mono ?_
      rintro e w3 ⟨rfl, hb3⟩
      have HG3 := ghid ((hb3.block w.heap.size hz2').trans HG2.out)
      have HR3 := ghid (HR2.out.below hb3 HR2.out.lt)
      have HB3 := ghid (HB2.out.trans (hb3.mono HB2.out.size))
      have HO3 := ghid (HO2.out.below hb3 (Nat.le_refl _))
      obtain ⟨r0, r1, r2, rf⟩ := HR3.out.cells
      have x2 := cell_of_row w3 w.heap.size 2 _ _ _ HG3.out
      have x3 := cell_of_row w3 w.heap.size 3 _ _ _ HG3.out
      have x4 := cell_of_row w3 w.heap.size 4 _ _ _ HG3.out
      simp only [List.getElem?_toArray, List.getElem?_cons_zero, List.getElem?_cons_succ] at x2 x3 x4
      have hq : w.heap.size + 1 < w3.heap.size := HR3.out.lt
      have hz3' : w.heap.size < w3.heap.size := by omega
      have hq1' : w.heap.size + 1 < w1.heap.size := HR1.out.lt
      have hq2 : w1.heap.size < w3.heap.size := HO3.out.block.2
      have hq3 : w.heap.size ≠ w1.heap.size := by omega
      have hq4 : w1.heap.size ≠ w.heap.size := by omega
      have hq5 : w.heap.size + 1 ≠ w1.heap.size := by omega
      have hq6 : w1.heap.size ≠ w.heap.size + 1 := by omega
      clear hb3 hrd CP HO2 y1
      obtain ⟨xv, hrn⟩ := map_at HRS.out HX.out
      obtain ⟨kg, hkg⟩ := HSN.out _ (List.mem_of_getElem? hrn)
      simp only at hkg
      subst hkg
      obtain ⟨d0, d1, d2, d3, d4⟩ := HO3.out.cells hrn
      have df := HO3.out.frozenAt
      simp only at d0 d1 d2 d3 d4
      have hkr : kg ∈ repBlocks rs := mem_repBlocks.2 ⟨_, List.mem_of_getElem? hrn, rfl⟩
      have hkl := HO3.out.reps.lt hkr
      have HRN := ghid hrn
      have HCH := ghid (fun (W' : World) (hb' : Below w3.heap.size w3 W') => hear_any w1.heap.size ls.length ls.length n rs ⟨xc, xi, xa, xt, xk⟩ kg xk.length (i + 1) uu W' w1.heap.size (HO3.out.below hb' (Nat.le_refl _)) hrn)
      clear hrn hkr
      go_wp2_with fail
      go_quiet (fail)
      go_wp2_with fail
      have HBQ : Hid (Below w3.heap.size w3 (w3.drewN (nq + 1))) := g_drewN_below _ _ _
      have hwi : IntKind.i64.wrap (i + 1) = i + 1 := by rw [IntKind.wrap_i64]; omega
      have hnl : (n : Int) < ls.length := by omega
      go_region_with (go_at_call 56; refine (HCH.out _ HBQ.out).mono ?_; rintro e w4 ⟨rfl, ⟨m, hown4⟩, hT4⟩)
      have hT4' : TouchG w3 w4 (fun b => b = w1.heap.size ∨ b = kg) := ⟨hT4.os, hT4.tape, hT4.output, hT4.size, hT4.block⟩
      have hkge := hkl.1
      have HG4 := ghid ((hT4'.block w.heap.size hz3' (by omega)).trans HG3.out)
      have HR4 := ghid (HR3.out.touch hT4' (by omega))
      have HB4 := ghid (HB3.out.trans (hT4'.below (by omega) (fun k hk => by omega)))
      have hnr : n < rs.length := (List.getElem?_eq_some_iff.1 HRN.out).1
      have hri : (rs.set n ((hearD ⟨xc, xi, xa, xt, xk⟩ (i + 1) uu, Value.slice (some ⟨kg, 0, none⟩) m xk.length)))[n]? = some (hearD ⟨xc, xi, xa, xt, xk⟩ (i + 1) uu, .slice (some ⟨kg, 0, none⟩) m xk.length) := List.getElem?_set_self hnr
      obtain ⟨e0, e1, e2, e3, e4⟩ := hown4.cells hri
      simp only [hearD] at e0 e1 e2 e3 e4
      have HKR := ghid ((hown4.reps.each _ (List.mem_of_getElem? hri)).reads (Nat.le_refl _))
      simp only [hearD] at HKR
      have HO4 := ghid hown4
      have z3 := cell_of_row w4 w.heap.size 3 _ _ _ HG4.out
      simp only [List.getElem?_toArray, List.getElem?_cons_zero, List.getElem?_cons_succ] at z3
      have hz4' : w.heap.size < w4.heap.size := lt_of_block HG4.out
      have hz4 : w1.heap.size < w4.heap.size := hown4.block.2
      have HCA : Hid (∀ W' : World, Below w4.heap.size w4 W' → Calls Tryz.prog 57 #[.agg #[.int .i64 xc, .int .i64 xi, .int .i64 (max xa uu), .int .i64 (i + 1), .slice (some ⟨kg, 0, none⟩) m xk.length], .int .i64 qq] W' fun e w'' => e = .returned (.tuple #[.agg #[.int .i64 rc, .int .i64 rn, .string rt], .bool rb]) ∧ Below w4.heap.size w4 w'' ∧ Below W'.heap.size W' w'') := by
        intro W' hb'
        have CA := answer_any xc xi (max xa uu) (i + 1) _ _ qq W' w4.heap.size (HKR.out.below hb' (Nat.le_refl _)) hb'.size (by omega) (by omega)
        rw [show answerD ⟨xc, xi, max xa uu, i + 1, _⟩ qq = _ from HD.out] at CA
        exact CA.mono (fun e w'' h => ⟨h.1, hb'.trans (h.2.mono hb'.size), h.2⟩)
      have HM : Hid ((rs.set n ((hearD ⟨xc, xi, xa, xt, xk⟩ (i + 1) uu, Value.slice (some ⟨kg, 0, none⟩) m xk.length))).map (·.1) = ls.set n (hearD ⟨xc, xi, xa, xt, xk⟩ (i + 1) uu)) := by
        unfold Hid
        rw [List.map_set, HRS.out]
      clear hown4 hT4 hT4' hri d0 d1 d2 d3 d4 df r0 r1 r2 rf x2 x3 x4
      go_upto_region 11 with fail
      go_cut [14, 15] (fun p bv wx => ∃ bx, p = .pointer (some ⟨bx, 0, none⟩) ∧ bv = .bool rb ∧ wx.heap[bx]? = some (.cells #[.int .i64 rc, .int .i64 rn, .string rt] 73 (0, 0)) ∧ w4.heap.size ≤ bx ∧ Below w4.heap.size w4 wx)
      case first =>
        go_region_with (go_at_call 57; refine (HCA.out _ (by first | exact (Below.refl _ _).drew | exact ((Below.refl _ _).alloc (Nat.le_refl _) _).drew)).mono ?_; rintro e w5 ⟨rfl, hb5', hb5⟩; obtain ⟨hc5, hf5⟩ := gcell hb5; have hz5 : w4.heap.size ≤ w5.heap.size := hb5'.size; have hz5' := hb5.size; simp at hz5')
        all_goals
          go_wp2
          go_meet
          refine ⟨_, rfl, rfl, ?_, by omega, ?_⟩
          · first
              | with_reducible exact heap_alloc_new w5 _
              | (have g5 : w5.heap[w4.heap.size]? = some (.cells #[.int .i64 0, .int .i64 0, .string ⟨#[]⟩] 73 (0, 0)) := (hb5.block w4.heap.size (by simp)).trans (heap_alloc_new w4 _)
                 have g6 := heap_setCell_same w5 w4.heap.size 0 _ 73 (.int .i64 rc) g5
                 have g7 := heap_setCell_same _ w4.heap.size 1 _ 73 (.int .i64 rn) g6
                 have g8 := heap_setCell_same _ w4.heap.size 2 _ 73 (.string rt) g7
                 simpa using g8)
          · first
              | with_reducible exact hb5'.alloc hz5 _
              | with_reducible exact ((hb5'.setCell (Nat.le_refl _) _).setCell (Nat.le_refl _) _).setCell (Nat.le_refl _) _
      case rest =>
        obtain ⟨bx, rfl, rfl, hgx, hbx, hb6⟩ := hcut
        have b0 := cell_of_row wc bx 0 _ _ _ hgx
        have b1 := cell_of_row wc bx 1 _ _ _ hgx
        have b2 := cell_of_row wc bx 2 _ _ _ hgx
        simp only [List.getElem?_toArray, List.getElem?_cons_zero, List.getElem?_cons_succ] at b0 b1 b2
        have hbxl : bx < wc.heap.size := lt_of_block hgx
        have HR6 := ghid (HR4.out.below hb6 HR4.out.lt)
        have HB6 := ghid (HB4.out.trans (hb6.mono HB4.out.size))
        have HO6 := ghid (HO4.out.below hb6 (Nat.le_refl _))
        obtain ⟨r0, r1, r2, rf⟩ := HR6.out.cells
        have hq5' : w.heap.size + 1 < wc.heap.size := HR6.out.lt
        have hr4 : w.heap.size + 1 < w4.heap.size := HR4.out.lt
        have hq7 : w.heap.size + 1 ≠ bx := by omega
        have hq8 : bx ≠ w.heap.size + 1 := by omega
        clear hb6 hgx e0 e1 e2 e3 e4 z3
        go_wp2_with fail
        go_region
        all_goals
          go_wp2
          refine bodyPost_ret (v := .tuple #[.slice (some ⟨w1.heap.size, 0, none⟩) ls.length ls.length, .agg #[.int .i64 rc, .int .i64 rn, .string rt], .bool rb, .int .i64 0]) (by simp [results, Tryz.results27, go_sem, r0, r1, r2]) rfl ⟨_, rfl, ?_, ?_⟩
          · have t := HO6.out.out3 hq1' (.int .i64 rc) (.int .i64 rn) (.string rt)
            rw [HM.out] at t
            first
              | exact t
              | exact (t.below (Below.refl _ _).drew (Nat.le_refl _)).mono (by simp [World.setCell])
          · first
              | exact gbelow3 HB6.out (by omega) _ _ _
              | exact (gbelow3 HB6.out (by omega) _ _ _).drew
    · rw [readyS_other ht hx hid]
      obtain ⟨n, hne⟩ : ∃ n, n = placeS ls cc := ⟨_, rfl⟩
      rw [← hne] at CP hx hin hlt
      have HX := ghid hx
      obtain ⟨xc, xi, xa, xt, xk⟩ := x
      simp only at hid ⊢
      have hid2 : (xi == ss) = false := by simpa using hid
      clear hne ht hr h1 h3 hx
      go_enter Tryz.func27, Tryz.ntmps27
      go_wp2_with fail
      rw [← HW0.out]
      refine CR.mono ?_
      rintro e w1 ⟨rfl, hb1⟩
      have hz1 : w.heap.size + 2 ≤ w1.heap.size := by have := hb1.size; omega
      have hz1' : w.heap.size < w1.heap.size := by omega
      have HG1 := ghid ((hb1.block w.heap.size (by omega)).trans HG0.out)
      have HR1 := ghid (HR0.out.below hb1 HR0.out.lt)
      have HB1 := ghid (HB0.out.trans (hb1.mono (by omega)))
      have x3 := cell_of_row w1 w.heap.size 3 _ _ _ HG1.out
      have x4 := cell_of_row w1 w.heap.size 4 _ _ _ HG1.out
      simp only [List.getElem?_toArray, List.getElem?_cons_zero, List.getElem?_cons_succ] at x3 x4
      clear hb1 CR hz0
      go_wp2_with fail
      refine (swithin_yes qq 1 1048576 _ hq0 hq1).mono ?_
      rintro e w9 ⟨rfl, hw⟩
      subst w9
      go_wp2_with fail
      refine (swithin_yes uu 0 (qq - 1) _ hu0 hu1).mono ?_
      rintro e w9 ⟨rfl, hw⟩
      subst w9
      go_wp2_with fail
      refine (sessCopy_any _ ls w1 B (HV.out.below HB1.out hB) (by have := HB1.out.size; omega)).mono ?_
      rintro e w2 ⟨rfl, rs, hrs, hown2, hsn, hb2⟩
      have HG2 := ghid ((hb2.block w.heap.size hz1').trans HG1.out)
      have HR2 := ghid (HR1.out.below hb2 HR1.out.lt)
      have HB2 := ghid (HB1.out.trans (hb2.mono HB1.out.size))
      have HRS := ghid hrs
      have HSN := ghid hsn
      have HO2 := ghid hown2
      have hrd := hown2.reads (Nat.le_refl _)
      rw [hrs] at hrd
      have hz2' : w.heap.size < w2.heap.size := lt_of_block HG2.out
      have y1 := cell_of_row w2 w.heap.size 1 _ _ _ HG2.out
      simp only [List.getElem?_toArray, List.getElem?_cons_zero, List.getElem?_cons_succ] at y1
      clear hb2 hown2 hrs hsn x3 x4
      go_wp2_with fail
      refine (CP.out _ _ hrd).mono ?_
      rintro e w3 ⟨rfl, hb3⟩
      have HG3 := ghid ((hb3.block w.heap.size hz2').trans HG2.out)
      have HR3 := ghid (HR2.out.below hb3 HR2.out.lt)
      have HB3 := ghid (HB2.out.trans (hb3.mono HB2.out.size))
      have HO3 := ghid (HO2.out.below hb3 (Nat.le_refl _))
      obtain ⟨r0, r1, r2, rf⟩ := HR3.out.cells
      have x2 := cell_of_row w3 w.heap.size 2 _ _ _ HG3.out
      have x3 := cell_of_row w3 w.heap.size 3 _ _ _ HG3.out
      have x4 := cell_of_row w3 w.heap.size 4 _ _ _ HG3.out
      simp only [List.getElem?_toArray, List.getElem?_cons_zero, List.getElem?_cons_succ] at x2 x3 x4
      have hq : w.heap.size + 1 < w3.heap.size := HR3.out.lt
      have hz3' : w.heap.size < w3.heap.size := by omega
      have hq1' : w.heap.size + 1 < w1.heap.size := HR1.out.lt
      have hq2 : w1.heap.size < w3.heap.size := HO3.out.block.2
      have hq3 : w.heap.size ≠ w1.heap.size := by omega
      have hq4 : w1.heap.size ≠ w.heap.size := by omega
      have hq5 : w.heap.size + 1 ≠ w1.heap.size := by omega
      have hq6 : w1.heap.size ≠ w.heap.size + 1 := by omega
      clear hb3 hrd CP HO2 y1
      obtain ⟨xv, hrn⟩ := map_at HRS.out HX.out
      obtain ⟨d0, d1, d2, d3, d4⟩ := HO3.out.cells hrn
      simp only at d0 d1 d2 d3 d4
      clear hrn
      go_wp2_with fail
      go_quiet (fail)
      go_wp2
      refine bodyPost_ret (v := .tuple #[.slice (some ⟨w1.heap.size, 0, none⟩) ls.length ls.length, .agg #[.int .i64 11, .int .i64 0, .string ⟨#[]⟩], .bool false, .int .i64 0]) (by simp [results, Tryz.results27, go_sem, r0, r1, r2]) rfl ⟨_, rfl, ?_, ?_⟩
      · have t := (HO3.out.below (g_drewN_below w3.heap.size w3 nq) (Nat.le_refl _)).out3 hq1' (.int .i64 11) (.int .i64 0) (.string ⟨#[]⟩)
        rw [HRS.out] at t
        exact t
      · exact gbelow3 (HB3.out.trans (g_drewN_below _ _ _)) (by omega) _ _ _

end Go.Proofs.YtijilhbdbeajjaaGreatDoor
