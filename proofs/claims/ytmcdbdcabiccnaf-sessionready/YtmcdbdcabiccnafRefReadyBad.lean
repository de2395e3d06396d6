/- The document's ReadyOf. (Written by gen_readyof.py.) -/
import Derived.Test.YtmcdbdcabiccnafRefSessF
import Derived.Test.YtmcdbdcabiccnafRefSessCopy
import Derived.Test.YtmcdbdcabiccnafRefSessAt
import Derived.Test.YtmcdbdcabiccnafRefKept
import Derived.Test.YtmcdbdcabiccnafSessReadyMath
import Derived.Test.YtmcdbdcabiccnafSessAnswer
import Derived.RegionTactic
import Derived.BigRegion
namespace Go.Proofs.Ytmcdbdcabiccnaf
open Go.RowKit

set_option maxRecDepth 100000 in
set_option maxHeartbeats 3200000 in
theorem readyOf_bad (v : Value) (ls : List SessD) (i kk cc ss qq uu ok : Int) (aa bb : ByteArray) (nn : Int) (w : World) (B : Nat) (hv : SessR w B v ls) (hB : B ≤ w.heap.size) (hr : readyE ls i qq uu ≠ 0) :
    Calls Try.prog 13 #[v, .int .i64 i, .agg #[.int .i64 kk, .int .i64 cc, .int .i64 ss, .int .i64 qq, .int .i64 uu, .int .i64 ok, .string aa, .string bb, .int .i64 nn]] w fun e w' => e = .returned (.tuple #[.slice none 0 0, .agg #[.int .i64 0, .int .i64 0, .string ⟨#[]⟩], .bool false, .int .i64 (readyE ls i qq uu)]) ∧ Below w.heap.size w w' := by
  obtain ⟨W0, hW0⟩ : ∃ W0, W0 = (w.alloc (.cells #[.int .i64 kk, .int .i64 cc, .int .i64 ss, .int .i64 qq, .int .i64 uu, .int .i64 ok, .string aa, .string bb, .int .i64 nn] 34)).alloc (.cells #[.int .i64 0, .int .i64 0, .string ⟨#[]⟩] 26) := ⟨_, rfl⟩
  have hb0 : Below w.heap.size w W0 := by rw [hW0]; exact ((Below.refl _ _).alloc (Nat.le_refl _) _).alloc (by simp) _
  have hz0 : W0.heap.size = w.heap.size + 2 := by rw [hW0]; simp
  have HG0 : Hid (W0.heap[w.heap.size]? = some (.cells #[.int .i64 kk, .int .i64 cc, .int .i64 ss, .int .i64 qq, .int .i64 uu, .int .i64 ok, .string aa, .string bb, .int .i64 nn] 34 (0, 0))) := by
    unfold Hid; rw [hW0]; exact (Below.heap_alloc _ _ _ (by simp)).trans (heap_alloc_new w _)
  have HR0 : Hid (GReply W0 (w.heap.size + 1)) := by
    unfold Hid; rw [hW0]
    have := GReply.new (w.alloc (.cells #[.int .i64 kk, .int .i64 cc, .int .i64 ss, .int .i64 qq, .int .i64 uu, .int .i64 ok, .string aa, .string bb, .int .i64 nn] 34))
    simpa using this
  have CR := sessionsFault_any v ls i W0 B (hv.below hb0 hB) (by omega)
  have HW0 := ghid hW0
  have HB0 := ghid hb0
  clear hb0 hW0
  obtain ⟨ao, cap, rfl, -⟩ := hv
  by_cases h1 : checkS ls i = 0
  · have h2 : ¬ (i ≠ 1073741824 ∧ (1 ≤ qq ∧ qq ≤ 1048576) ∧ 0 ≤ uu ∧ uu ≤ qq - 1) := fun e => hr (readyE_ok h1 e)
    have hi1 := (checkS_zero h1).high
    rw [readyE_range h1 h2]
    rw [h1] at CR
    clear hr h1
    by_cases h3 : i = 1073741824
    · subst h3
      clear h2
      go_enter Try.func13, Try.ntmps13
      go_wp2_with fail
      rw [← HW0.out]
      refine CR.mono ?_
      rintro e w1 ⟨rfl, hb1⟩
      have hz1 : w.heap.size + 2 ≤ w1.heap.size := by have := hb1.size; omega
      have hz1' : w.heap.size < w1.heap.size := by omega
      have HG1 := ghid ((hb1.block w.heap.size (by omega)).trans HG0.out)
      have HR1 := ghid (HR0.out.below hb1 HR0.out.lt)
      have HB1 := ghid (HB0.out.trans (hb1.mono (by omega)))
      have x3 := cell_of_row w1 w.heap.size 3 _ _ _ HG1.out
      have x4 := cell_of_row w1 w.heap.size 4 _ _ _ HG1.out
      simp only [List.getElem?_toArray, List.getElem?_cons_zero, List.getElem?_cons_succ] at x3 x4
      clear hb1 CR hz0
      obtain ⟨r0, r1, r2, rf⟩ := HR1.out.cells
      have hq1' : w.heap.size + 1 < w1.heap.size := HR1.out.lt
      go_wp2
      refine bodyPost_ret (v := .tuple #[.slice none 0 0, .agg #[.int .i64 0, .int .i64 0, .string ⟨#[]⟩], .bool false, .int .i64 2]) (by simp [results, Try.results13, go_sem, r0, r1, r2]) rfl ?_
      exact ⟨rfl, gbelow3 HB1.out (by omega) _ _ _⟩
    · have hine : ¬ 1073741824 ≤ i := by omega
      by_cases h4 : 1 ≤ qq ∧ qq ≤ 1048576
      · have h5 : uu < 0 ∨ qq - 1 < uu := by
          by_cases e : 0 ≤ uu ∧ uu ≤ qq - 1
          · exact absurd ⟨h3, h4, e⟩ h2
          · omega
        have hq0 := h4.1
        have hq1 := h4.2
        clear h2 h3
        go_enter Try.func13, Try.ntmps13
        go_wp2_with fail
        rw [← HW0.out]
        refine CR.mono ?_
        rintro e w1 ⟨rfl, hb1⟩
        have hz1 : w.heap.size + 2 ≤ w1.heap.size := by have := hb1.size; omega
        have hz1' : w.heap.size < w1.heap.size := by omega
        have HG1 := ghid ((hb1.block w.heap.size (by omega)).trans HG0.out)
        have HR1 := ghid (HR0.out.below hb1 HR0.out.lt)
        have HB1 := ghid (HB0.out.trans (hb1.mono (by omega)))
        have x3 := cell_of_row w1 w.heap.size 3 _ _ _ HG1.out
        have x4 := cell_of_row w1 w.heap.size 4 _ _ _ HG1.out
        simp only [List.getElem?_toArray, List.getElem?_cons_zero, List.getElem?_cons_succ] at x3 x4
        clear hb1 CR hz0
        go_wp2_with fail
        refine (in_yes qq 1 1048576 _ hq0 hq1).mono ?_
        rintro e w9 ⟨rfl, hw⟩
        subst w9
        go_wp2_with fail
        refine (in_no uu 0 (qq - 1) _ h5).mono ?_
        rintro e w9 ⟨rfl, hw⟩
        subst w9
        obtain ⟨r0, r1, r2, rf⟩ := HR1.out.cells
        have hq1' : w.heap.size + 1 < w1.heap.size := HR1.out.lt
        go_wp2
        refine bodyPost_ret (v := .tuple #[.slice none 0 0, .agg #[.int .i64 0, .int .i64 0, .string ⟨#[]⟩], .bool false, .int .i64 2]) (by simp [results, Try.results13, go_sem, r0, r1, r2]) rfl ?_
        exact ⟨rfl, gbelow3 HB1.out (by omega) _ _ _⟩
      · have h5 : qq < 1 ∨ 1048576 < qq := by omega
        clear h2 h3 h4
        go_enter Try.func13, Try.ntmps13
        go_wp2_with fail
        rw [← HW0.out]
        refine CR.mono ?_
        rintro e w1 ⟨rfl, hb1⟩
        have hz1 : w.heap.size + 2 ≤ w1.heap.size := by have := hb1.size; omega
        have hz1' : w.heap.size < w1.heap.size := by omega
        have HG1 := ghid ((hb1.block w.heap.size (by omega)).trans HG0.out)
        have HR1 := ghid (HR0.out.below hb1 HR0.out.lt)
        have HB1 := ghid (HB0.out.trans (hb1.mono (by omega)))
        have x3 := cell_of_row w1 w.heap.size 3 _ _ _ HG1.out
        have x4 := cell_of_row w1 w.heap.size 4 _ _ _ HG1.out
        simp only [List.getElem?_toArray, List.getElem?_cons_zero, List.getElem?_cons_succ] at x3 x4
        clear hb1 CR hz0
        go_wp2_with fail
        refine (in_no qq 1 1048576 _ h5).mono ?_
        rintro e w9 ⟨rfl, hw⟩
        subst w9
        obtain ⟨r0, r1, r2, rf⟩ := HR1.out.cells
        have hq1' : w.heap.size + 1 < w1.heap.size := HR1.out.lt
        go_wp2
        refine bodyPost_ret (v := .tuple #[.slice none 0 0, .agg #[.int .i64 0, .int .i64 0, .string ⟨#[]⟩], .bool false, .int .i64 2]) (by simp [results, Try.results13, go_sem, r0, r1, r2]) rfl ?_
        exact ⟨rfl, gbelow3 HB1.out (by omega) _ _ _⟩
  · rw [readyE_check h1]
    obtain ⟨ec, hec⟩ : ∃ ec, ec = checkS ls i := ⟨_, rfl⟩
    rw [← hec] at CR h1 ⊢
    have hr2 : (ec == 0) = false := by simpa using h1
    clear hec hr
    go_enter Try.func13, Try.ntmps13
    go_wp2_with fail
    rw [← HW0.out]
    refine CR.mono ?_
    rintro e w1 ⟨rfl, hb1⟩
    have hz1 : w.heap.size + 2 ≤ w1.heap.size := by have := hb1.size; omega
    have hz1' : w.heap.size < w1.heap.size := by omega
    have HG1 := ghid ((hb1.block w.heap.size (by omega)).trans HG0.out)
    have HR1 := ghid (HR0.out.below hb1 HR0.out.lt)
    have HB1 := ghid (HB0.out.trans (hb1.mono (by omega)))
    have x3 := cell_of_row w1 w.heap.size 3 _ _ _ HG1.out
    have x4 := cell_of_row w1 w.heap.size 4 _ _ _ HG1.out
    simp only [List.getElem?_toArray, List.getElem?_cons_zero, List.getElem?_cons_succ] at x3 x4
    clear hb1 CR hz0
    obtain ⟨r0, r1, r2, rf⟩ := HR1.out.cells
    have hq1' : w.heap.size + 1 < w1.heap.size := HR1.out.lt
    go_wp2
    refine bodyPost_ret (v := .tuple #[.slice none 0 0, .agg #[.int .i64 0, .int .i64 0, .string ⟨#[]⟩], .bool false, .int .i64 ec]) (by simp [results, Try.results13, go_sem, r0, r1, r2]) rfl ?_
    exact ⟨rfl, gbelow3 HB1.out (by omega) _ _ _⟩

set_option maxRecDepth 100000 in
set_option maxHeartbeats 6400000 in
theorem readyOf_away (v : Value) (ls : List SessD) (i kk cc ss qq uu ok : Int) (aa bb : ByteArray) (nn : Int) (w : World) (B : Nat) (hv : SessR w B v ls) (hB : B ≤ w.heap.size) (hr : readyE ls i qq uu = 0) (haw : thereS ls cc = false ∨ ∃ x, thereS ls cc = true ∧ ls[placeS ls cc]? = some x ∧ x.id ≠ ss) :
    Calls Try.prog 13 #[v, .int .i64 i, .agg #[.int .i64 kk, .int .i64 cc, .int .i64 ss, .int .i64 qq, .int .i64 uu, .int .i64 ok, .string aa, .string bb, .int .i64 nn]] w fun e w' => ∃ v', e = .returned (.tuple #[v', .agg #[.int .i64 11, .int .i64 0, .string ⟨#[]⟩], .bool false, .int .i64 0]) ∧ SessR w' w'.heap.size v' ls ∧ Below w.heap.size w w' := by
  obtain ⟨W0, hW0⟩ : ∃ W0, W0 = (w.alloc (.cells #[.int .i64 kk, .int .i64 cc, .int .i64 ss, .int .i64 qq, .int .i64 uu, .int .i64 ok, .string aa, .string bb, .int .i64 nn] 34)).alloc (.cells #[.int .i64 0, .int .i64 0, .string ⟨#[]⟩] 26) := ⟨_, rfl⟩
  have hb0 : Below w.heap.size w W0 := by rw [hW0]; exact ((Below.refl _ _).alloc (Nat.le_refl _) _).alloc (by simp) _
  have hz0 : W0.heap.size = w.heap.size + 2 := by rw [hW0]; simp
  have HG0 : Hid (W0.heap[w.heap.size]? = some (.cells #[.int .i64 kk, .int .i64 cc, .int .i64 ss, .int .i64 qq, .int .i64 uu, .int .i64 ok, .string aa, .string bb, .int .i64 nn] 34 (0, 0))) := by
    unfold Hid; rw [hW0]; exact (Below.heap_alloc _ _ _ (by simp)).trans (heap_alloc_new w _)
  have HR0 : Hid (GReply W0 (w.heap.size + 1)) := by
    unfold Hid; rw [hW0]
    have := GReply.new (w.alloc (.cells #[.int .i64 kk, .int .i64 cc, .int .i64 ss, .int .i64 qq, .int .i64 uu, .int .i64 ok, .string aa, .string bb, .int .i64 nn] 34))
    simpa using this
  have CR := sessionsFault_any v ls i W0 B (hv.below hb0 hB) (by omega)
  have HW0 := ghid hW0
  have HB0 := ghid hb0
  clear hb0 hW0
  obtain ⟨h1, h3, ⟨hq0, hq1⟩, hu0, hu1⟩ := readyE_zero hr
  have HGD := ghid (checkS_zero h1)
  have hi0 := HGD.out.low
  have hi1 := HGD.out.high
  have hine : ¬ 1073741824 ≤ i := by omega
  rw [h1] at CR
  have HV := ghid hv
  obtain ⟨ao, cap, rfl, -⟩ := hv
  rcases haw with ht | ⟨x, ht, hx, hid⟩
  · have CP := ghid (fun u w' hu => sessionAt_none u ls cc w' w'.heap.size hu (fun j y hy => thereS_none HGD.out.order ht hy))
    clear ht hr h1 h3
    go_enter Try.func13, Try.ntmps13
    go_wp2_with fail
    rw [← HW0.out]
    refine CR.mono ?_
    rintro e w1 ⟨rfl, hb1⟩
    have hz1 : w.heap.size + 2 ≤ w1.heap.size := by have := hb1.size; omega
    have hz1' : w.heap.size < w1.heap.size := by omega
    have HG1 := ghid ((hb1.block w.heap.size (by omega)).trans HG0.out)
    have HR1 := ghid (HR0.out.below hb1 HR0.out.lt)
    have HB1 := ghid (HB0.out.trans (hb1.mono (by omega)))
    have x3 := cell_of_row w1 w.heap.size 3 _ _ _ HG1.out
    have x4 := cell_of_row w1 w.heap.size 4 _ _ _ HG1.out
    simp only [List.getElem?_toArray, List.getElem?_cons_zero, List.getElem?_cons_succ] at x3 x4
    clear hb1 CR hz0
    go_wp2_with fail
    refine (in_yes qq 1 1048576 _ hq0 hq1).mono ?_
    rintro e w9 ⟨rfl, hw⟩
    subst w9
    go_wp2_with fail
    refine (in_yes uu 0 (qq - 1) _ hu0 hu1).mono ?_
    rintro e w9 ⟨rfl, hw⟩
    subst w9
    go_wp2_with fail
    refine (sessionsCopy_any _ ls w1 B (HV.out.below HB1.out hB) (by have := HB1.out.size; omega)).mono ?_
    rintro e w2 ⟨v2, rs, rfl, hrs, hown2, hb2⟩
    have HG2 := ghid ((hb2.block w.heap.size hz1').trans HG1.out)
    have HR2 := ghid (HR1.out.below hb2 HR1.out.lt)
    have HB2 := ghid (HB1.out.trans (hb2.mono HB1.out.size))
    have HRS := ghid hrs
    have HO2 := ghid hown2
    have hrd := hown2.reads (Nat.le_refl _)
    rw [hrs] at hrd
    have hz12 : w1.heap.size ≤ w2.heap.size := hb2.size
    have hz2' : w.heap.size < w2.heap.size := lt_of_block HG2.out
    have y1 := cell_of_row w2 w.heap.size 1 _ _ _ HG2.out
    have y2 := cell_of_row w2 w.heap.size 2 _ _ _ HG2.out
    have y3 := cell_of_row w2 w.heap.size 3 _ _ _ HG2.out
    have y4 := cell_of_row w2 w.heap.size 4 _ _ _ HG2.out
    simp only [List.getElem?_toArray, List.getElem?_cons_zero, List.getElem?_cons_succ] at y1 y2 y3 y4
    clear hb2 hown2 hrs x3 x4
    go_wp2_with fail
    refine (CP.out _ _ hrd).mono ?_
    rintro e w9 ⟨rfl, hw⟩
    subst w9
    obtain ⟨r0, r1, r2, rf⟩ := HR2.out.cells
    have hq : w.heap.size + 1 < w2.heap.size := HR2.out.lt
    have hq1' : w.heap.size + 1 < w1.heap.size := HR1.out.lt
    clear hrd CP
    have hrl : rs.length = ls.length := by rw [← HRS.out, List.length_map]
    obtain ⟨g, gc, rfl⟩ := grow_shape HO2.out.row
    rw [hrl] at HO2 ⊢
    clear hrl
    go_wp2_with fail
    go_quiet (fail)
    go_wp2
    refine bodyPost_ret (v := .tuple #[.slice g ls.length gc, .agg #[.int .i64 11, .int .i64 0, .string ⟨#[]⟩], .bool false, .int .i64 0]) (by simp [results, Try.results13, go_sem, r0, r1, r2]) rfl ⟨_, rfl, ?_, ?_⟩
    · have t := (HO2.out.below (g_drewN_below w2.heap.size w2 nq) (Nat.le_refl _)).out3 hq1' (.int .i64 11) (.int .i64 0) (.string ⟨#[]⟩)
      rw [HRS.out] at t
      exact t
    · exact gbelow3 (HB2.out.trans (g_drewN_below _ _ _)) (by omega) _ _ _
  · obtain ⟨x', hx', hxc⟩ := thereS_some ht
    have CP := ghid (fun u w' hu => sessionAt_found u ls cc (placeS ls cc) x' w' w'.heap.size hu hx' hxc (fun j y hj hy => by have := placeS_before hj hy; omega))
    have hlt : placeS ls cc < ls.length := (List.getElem?_eq_some_iff.1 hx).1
    obtain ⟨n, hne⟩ : ∃ n, n = placeS ls cc := ⟨_, rfl⟩
    rw [← hne] at CP hx hlt
    have HX := ghid hx
    obtain ⟨xc, xi, xa, xt, xk⟩ := x
    simp only at hid
    have hid2 : (xi == ss) = false := by simpa using hid
    clear hne ht hr h1 h3 hx hx' hxc
    go_enter Try.func13, Try.ntmps13
    go_wp2_with fail
    rw [← HW0.out]
    refine CR.mono ?_
    rintro e w1 ⟨rfl, hb1⟩
    have hz1 : w.heap.size + 2 ≤ w1.heap.size := by have := hb1.size; omega
    have hz1' : w.heap.size < w1.heap.size := by omega
    have HG1 := ghid ((hb1.block w.heap.size (by omega)).trans HG0.out)
    have HR1 := ghid (HR0.out.below hb1 HR0.out.lt)
    have HB1 := ghid (HB0.out.trans (hb1.mono (by omega)))
    have x3 := cell_of_row w1 w.heap.size 3 _ _ _ HG1.out
    have x4 := cell_of_row w1 w.heap.size 4 _ _ _ HG1.out
    simp only [List.getElem?_toArray, List.getElem?_cons_zero, List.getElem?_cons_succ] at x3 x4
    clear hb1 CR hz0
    go_wp2_with fail
    refine (in_yes qq 1 1048576 _ hq0 hq1).mono ?_
    rintro e w9 ⟨rfl, hw⟩
    subst w9
    go_wp2_with fail
    refine (in_yes uu 0 (qq - 1) _ hu0 hu1).mono ?_
    rintro e w9 ⟨rfl, hw⟩
    subst w9
    go_wp2_with fail
    refine (sessionsCopy_any _ ls w1 B (HV.out.below HB1.out hB) (by have := HB1.out.size; omega)).mono ?_
    rintro e w2 ⟨v2, rs, rfl, hrs, hown2, hb2⟩
    have HG2 := ghid ((hb2.block w.heap.size hz1').trans HG1.out)
    have HR2 := ghid (HR1.out.below hb2 HR1.out.lt)
    have HB2 := ghid (HB1.out.trans (hb2.mono HB1.out.size))
    have HRS := ghid hrs
    have HO2 := ghid hown2
    have hrd := hown2.reads (Nat.le_refl _)
    rw [hrs] at hrd
    have hz12 : w1.heap.size ≤ w2.heap.size := hb2.size
    have hz2' : w.heap.size < w2.heap.size := lt_of_block HG2.out
    have y1 := cell_of_row w2 w.heap.size 1 _ _ _ HG2.out
    have y2 := cell_of_row w2 w.heap.size 2 _ _ _ HG2.out
    have y3 := cell_of_row w2 w.heap.size 3 _ _ _ HG2.out
    have y4 := cell_of_row w2 w.heap.size 4 _ _ _ HG2.out
    simp only [List.getElem?_toArray, List.getElem?_cons_zero, List.getElem?_cons_succ] at y1 y2 y3 y4
    clear hb2 hown2 hrs x3 x4
    go_wp2_with fail
    refine (CP.out _ _ hrd).mono ?_
    rintro e w9 ⟨rfl, hw⟩
    subst w9
    obtain ⟨r0, r1, r2, rf⟩ := HR2.out.cells
    have hq : w.heap.size + 1 < w2.heap.size := HR2.out.lt
    have hq1' : w.heap.size + 1 < w1.heap.size := HR1.out.lt
    clear hrd CP
    obtain ⟨xv, hrn⟩ := map_at HRS.out HX.out
    have hrl : rs.length = ls.length := by rw [← HRS.out, List.length_map]
    obtain ⟨g, gc, hge, hgb, hgl, -⟩ := grow_some HO2.out.row (by omega)
    subst hge
    rw [hrl] at HO2 ⊢
    obtain ⟨d0, d1, d2, d3, d4⟩ := HO2.out.cells hrn
    simp only at d0 d1 d2 d3 d4
    have hnl : (n : Int) < ls.length := by omega
    have hn0 : ¬ (n : Int) < 0 := by omega
    have hn1 : decide ((n : Int) < 0) = false := by simp
    clear hrn hrl
    go_wp2_with fail
    go_quiet (fail)
    go_wp2
    refine bodyPost_ret (v := .tuple #[.slice (some ⟨g, 0, none⟩) ls.length gc, .agg #[.int .i64 11, .int .i64 0, .string ⟨#[]⟩], .bool false, .int .i64 0]) (by simp [results, Try.results13, go_sem, r0, r1, r2]) rfl ⟨_, rfl, ?_, ?_⟩
    · have t := (HO2.out.below (g_drewN_below w2.heap.size w2 nq) (Nat.le_refl _)).out3 hq1' (.int .i64 11) (.int .i64 0) (.string ⟨#[]⟩)
      rw [HRS.out] at t
      exact t
    · exact gbelow3 (HB2.out.trans (g_drewN_below _ _ _)) (by omega) _ _ _
end Go.Proofs.Ytmcdbdcabiccnaf
