/- session.Keep. (Written by gen_keep.py.) (joined by program) -/
import Derived.Deep.RegionWith
import Derived.Deep.DeepCutAuto
import Derived.Deep.AppendLies
import Derived.Test.YtijilhbdbeajjaaGreatDoorTT02
import Derived.Test.YtijilhbdbeajjaaGreatDoorTT18
import Derived.Test.YtijilhbdbeajjaaGreatDoorTT24
import Derived.Test.YtijilhbdbeajjaaGreatDoorTT09
namespace Go.Proofs.YtijilhbdbeajjaaGreatDoor

open Go.RowKit

set_option maxRecDepth 100000 in
set_option maxHeartbeats 3200000 in
theorem Keep_any (v : Value) (ls : List SessD) (i c q rc rn : Int) (rt : ByteArray) (w : World) (B : Nat) (hv : SessR w B v ls) (hB : B ≤ w.heap.size) (hrt : rt.size ≤ 140737488351232) :
    Calls Tryz.prog 142 #[v, .int .i64 i, .int .i64 c, .int .i64 q, .agg #[.int .i64 rc, .int .i64 rn, .string rt]] w fun e w' => ∃ v', e = .returned (.tuple #[v', .int .i64 (keepE ls i c ⟨q, rc, rn, rt⟩)]) ∧ SessR w' w'.heap.size v' (if keepE ls i c ⟨q, rc, rn, rt⟩ = 0 then keepS ls c ⟨q, rc, rn, rt⟩ else []) ∧ Below w.heap.size w w' := by
  have hb0 : Below w.heap.size w (w.alloc (.cells #[.int .i64 rc, .int .i64 rn, .string rt] 73)) := (Below.refl _ _).alloc (Nat.le_refl _) _
  have CR := sessCheck_any v ls i _ B (hv.below hb0 hB) (by simp; omega)
  have HV := ghid hv
  have HB0 := ghid hb0
  have hin := placeS_le ls c
  obtain ⟨ao, cap, rfl, -⟩ := hv
  clear hb0
  rcases keep_cases ls i c ⟨q, rc, rn, rt⟩ with ⟨h1, he⟩ | ⟨h1, ht, he⟩ | ⟨x, h1, ht, hx, hcase⟩
  · rw [he]
    rw [if_neg h1]
    obtain ⟨ec, hec⟩ : ∃ ec, ec = checkS ls i := ⟨_, rfl⟩
    rw [← hec] at CR h1 ⊢
    have hr2 : (ec == 0) = false := by simpa using h1
    clear hec he
    go_enter Tryz.func142, Tryz.ntmps142
    go_wp2_with fail
    refine CR.mono ?_
    rintro e w1 ⟨rfl, hb1⟩
    have hz1 : w.heap.size < w1.heap.size := by have := hb1.size; simp at this; omega
    have HG1 := ghid ((hb1.block w.heap.size (by simp)).trans (heap_alloc_new w _))
    have HB1 := ghid (HB0.out.trans (hb1.mono (by simp)))
    clear hb1 CR
    go_wp2
    refine bodyPost_ret (v := .tuple #[.slice none 0 0, .int .i64 ec]) (by simp [results, Tryz.results142, go_sem]) rfl ?_
    exact ⟨_, rfl, SessR.nil _ _, HB1.out⟩
  · rw [he]
    rw [if_neg (by decide)]
    rw [h1] at CR
    have CP := ghid (fun u w' hu => splace_any u ls c w' w'.heap.size hu (Nat.le_refl _))
    rw [ht] at CP
    obtain ⟨n, hne⟩ : ∃ n, n = placeS ls c := ⟨_, rfl⟩
    rw [← hne] at CP hin
    clear he h1 ht hne
    go_enter Tryz.func142, Tryz.ntmps142
    go_wp2_with fail
    refine CR.mono ?_
    rintro e w1 ⟨rfl, hb1⟩
    have hz1 : w.heap.size < w1.heap.size := by have := hb1.size; simp at this; omega
    have HG1 := ghid ((hb1.block w.heap.size (by simp)).trans (heap_alloc_new w _))
    have HB1 := ghid (HB0.out.trans (hb1.mono (by simp)))
    clear hb1 CR
    go_wp2_with fail
    refine (sessCopy_any _ ls w1 B (HV.out.below HB1.out hB) (by have := HB1.out.size; omega)).mono ?_
    rintro e w2 ⟨rfl, rs, hrs, hown2, hsn, hb2⟩
    have HG2 := ghid ((hb2.block w.heap.size hz1).trans HG1.out)
    have HB2 := ghid (HB1.out.trans (hb2.mono HB1.out.size))
    have HRS := ghid hrs
    have HSN := ghid hsn
    have HO2 := ghid hown2
    have hrd := hown2.reads (Nat.le_refl _)
    rw [hrs] at hrd
    have hz2 : w.heap.size < w2.heap.size := lt_of_block HG2.out
    clear hb2 hown2 hrs hsn
    go_wp2_with fail
    refine (CP.out _ _ hrd).mono ?_
    rintro e w3 ⟨rfl, hb3⟩
    have HG3 := ghid ((hb3.block w.heap.size hz2).trans HG2.out)
    have HB3 := ghid (HB2.out.trans (hb3.mono HB2.out.size))
    have HO3 := ghid (HO2.out.below hb3 (Nat.le_refl _))
    have hz3 : w.heap.size < w3.heap.size := lt_of_block HG3.out
    have hq2 : w1.heap.size < w3.heap.size := HO3.out.block.2
    have hq3 : w.heap.size ≠ w1.heap.size := by omega
    have hq4 : w1.heap.size ≠ w.heap.size := by omega
    clear hb3 hrd CP HO2
    go_wp2
    refine bodyPost_ret (v := .tuple #[.slice none 0 0, .int .i64 11]) (by simp [results, Tryz.results142, go_sem]) rfl ?_
    exact ⟨_, rfl, SessR.nil _ _, HB3.out⟩
  · have hlt : placeS ls c < ls.length := (List.getElem?_eq_some_iff.1 hx).1
    have HGD := ghid (checkS_zero h1)
    have hfine := HGD.out.fine x (List.mem_of_getElem? hx)
    have hrg := rangeB_iff.1 hfine.range
    have hxl := sformB_len hfine.form
    have HKS := ghid (keepS_there (k := ⟨q, rc, rn, rt⟩) hx)
    rw [h1] at CR
    have CP := ghid (fun u w' hu => splace_any u ls c w' w'.heap.size hu (Nat.le_refl _))
    rw [ht] at CP
    obtain ⟨n, hne⟩ : ∃ n, n = placeS ls c := ⟨_, rfl⟩
    rw [← hne] at CP hx hin hlt HKS
    have HX := ghid hx
    obtain ⟨xc, xi, xa, xt, xk⟩ := x
    simp only at hrg hxl HKS hcase
    have hxa0 : 0 ≤ xa := hrg.2.2.1
    have hxa1 : xa ≤ 1048576 := hrg.2.2.2.1
    have CK := ghid (fun u w' B' hu hB' => kplace_any u xk q w' B' hu hB')
    have hkin := placeK_le xk q
    clear h1 ht hx hne hfine hrg
    rcases hcase with ⟨hk, he⟩ | ⟨hk, hf, he⟩ | ⟨hk, hf, he⟩
    · rw [he]
      rw [if_neg (by decide)]
      rw [hk] at CK
      obtain ⟨p, hpe⟩ : ∃ p, p = placeK xk q := ⟨_, rfl⟩
      rw [← hpe] at CK hkin
      clear he hk hpe
      go_enter Tryz.func142, Tryz.ntmps142
      go_wp2_with fail
      refine CR.mono ?_
      rintro e w1 ⟨rfl, hb1⟩
      have hz1 : w.heap.size < w1.heap.size := by have := hb1.size; simp at this; omega
      have HG1 := ghid ((hb1.block w.heap.size (by simp)).trans (heap_alloc_new w _))
      have HB1 := ghid (HB0.out.trans (hb1.mono (by simp)))
      clear hb1 CR
      go_wp2_with fail
      refine (sessCopy_any _ ls w1 B (HV.out.below HB1.out hB) (by have := HB1.out.size; omega)).mono ?_
      rintro e w2 ⟨rfl, rs, hrs, hown2, hsn, hb2⟩
      have HG2 := ghid ((hb2.block w.heap.size hz1).trans HG1.out)
      have HB2 := ghid (HB1.out.trans (hb2.mono HB1.out.size))
      have HRS := ghid hrs
      have HSN := ghid hsn
      have HO2 := ghid hown2
      have hrd := hown2.reads (Nat.le_refl _)
      rw [hrs] at hrd
      have hz2 : w.heap.size < w2.heap.size := lt_of_block HG2.out
      clear hb2 hown2 hrs hsn
      go_wp2_with fail
      refine (CP.out _ _ hrd).mono ?_
      rintro e w3 ⟨rfl, hb3⟩
      have HG3 := ghid ((hb3.block w.heap.size hz2).trans HG2.out)
      have HB3 := ghid (HB2.out.trans (hb3.mono HB2.out.size))
      have HO3 := ghid (HO2.out.below hb3 (Nat.le_refl _))
      have hz3 : w.heap.size < w3.heap.size := lt_of_block HG3.out
      have hq2 : w1.heap.size < w3.heap.size := HO3.out.block.2
      have hq3 : w.heap.size ≠ w1.heap.size := by omega
      have hq4 : w1.heap.size ≠ w.heap.size := by omega
      clear hb3 hrd CP HO2
      obtain ⟨xv, hrn⟩ := map_at HRS.out HX.out
      obtain ⟨kg, hkg⟩ := HSN.out _ (List.mem_of_getElem? hrn)
      simp only at hkg
      subst hkg
      have HRN := ghid hrn
      have hoks := HO3.out.reps.each _ (List.mem_of_getElem? hrn)
      obtain ⟨d0, d1, d2, d3, d4⟩ := HO3.out.cells hrn
      simp only at d0 d1 d2 d3 d4
      have hkr : kg ∈ repBlocks rs := mem_repBlocks.2 ⟨_, List.mem_of_getElem? hrn, rfl⟩
      have hkl := HO3.out.reps.lt hkr
      have hnl : (n : Int) < ls.length := by omega
      have CKK := CK.out _ w3 w3.heap.size (hoks.reads (Nat.le_refl _)) (Nat.le_refl _)
      clear hrn hkr hoks
      go_wp2_with fail
      refine CKK.mono ?_
      rintro e w4 ⟨rfl, hb4⟩
      have HG4 := ghid ((hb4.block w.heap.size hz3).trans HG3.out)
      have HB4 := ghid (HB3.out.trans (hb4.mono HB3.out.size))
      have HO4 := ghid (HO3.out.below hb4 (Nat.le_refl _))
      have hz4 : w.heap.size < w4.heap.size := lt_of_block HG4.out
      have hq5 : w1.heap.size < w4.heap.size := HO4.out.block.2
      clear hb4 CKK CK d0 d1 d2 d3 d4
      go_wp2
      refine bodyPost_ret (v := .tuple #[.slice none 0 0, .int .i64 7]) (by simp [results, Tryz.results142, go_sem]) rfl ?_
      exact ⟨_, rfl, SessR.nil _ _, HB4.out⟩
    · rw [he]
      rw [if_neg (by decide)]
      rw [hk] at CK
      have HFM : Hid (formFrom xa xa (xk.take (placeK xk q) ++ ⟨q, rc, rn, rt⟩ :: xk.drop (placeK xk q)) = false) := hf
      obtain ⟨p, hpe⟩ : ∃ p, p = placeK xk q := ⟨_, rfl⟩
      rw [← hpe] at CK hkin HFM
      clear he hk hpe hf
      go_enter Tryz.func142, Tryz.ntmps142
      go_wp2_with fail
      refine CR.mono ?_
      rintro e w1 ⟨rfl, hb1⟩
      have hz1 : w.heap.size < w1.heap.size := by have := hb1.size; simp at this; omega
      have HG1 := ghid ((hb1.block w.heap.size (by simp)).trans (heap_alloc_new w _))
      have HB1 := ghid (HB0.out.trans (hb1.mono (by simp)))
      clear hb1 CR
      go_wp2_with fail
      refine (sessCopy_any _ ls w1 B (HV.out.below HB1.out hB) (by have := HB1.out.size; omega)).mono ?_
      rintro e w2 ⟨rfl, rs, hrs, hown2, hsn, hb2⟩
      have HG2 := ghid ((hb2.block w.heap.size hz1).trans HG1.out)
      have HB2 := ghid (HB1.out.trans (hb2.mono HB1.out.size))
      have HRS := ghid hrs
      have HSN := ghid hsn
      have HO2 := ghid hown2
      have hrd := hown2.reads (Nat.le_refl _)
      rw [hrs] at hrd
      have hz2 : w.heap.size < w2.heap.size := lt_of_block HG2.out
      clear hb2 hown2 hrs hsn
      go_wp2_with fail
      refine (CP.out _ _ hrd).mono ?_
      rintro e w3 ⟨rfl, hb3⟩
      have HG3 := ghid ((hb3.block w.heap.size hz2).trans HG2.out)
      have HB3 := ghid (HB2.out.trans (hb3.mono HB2.out.size))
      have HO3 := ghid (HO2.out.below hb3 (Nat.le_refl _))
      have hz3 : w.heap.size < w3.heap.size := lt_of_block HG3.out
      have hq2 : w1.heap.size < w3.heap.size := HO3.out.block.2
      have hq3 : w.heap.size ≠ w1.heap.size := by omega
      have hq4 : w1.heap.size ≠ w.heap.size := by omega
      clear hb3 hrd CP HO2
      obtain ⟨xv, hrn⟩ := map_at HRS.out HX.out
      obtain ⟨kg, hkg⟩ := HSN.out _ (List.mem_of_getElem? hrn)
      simp only at hkg
      subst hkg
      have HRN := ghid hrn
      have hoks := HO3.out.reps.each _ (List.mem_of_getElem? hrn)
      obtain ⟨d0, d1, d2, d3, d4⟩ := HO3.out.cells hrn
      simp only at d0 d1 d2 d3 d4
      have hkr : kg ∈ repBlocks rs := mem_repBlocks.2 ⟨_, List.mem_of_getElem? hrn, rfl⟩
      have hkl := HO3.out.reps.lt hkr
      have hnl : (n : Int) < ls.length := by omega
      have CKK := CK.out _ w3 w3.heap.size (hoks.reads (Nat.le_refl _)) (Nat.le_refl _)
      clear hrn hkr hoks
      go_wp2_with fail
      refine CKK.mono ?_
      rintro e w4 ⟨rfl, hb4⟩
      have HG4 := ghid ((hb4.block w.heap.size hz3).trans HG3.out)
      have HB4 := ghid (HB3.out.trans (hb4.mono HB3.out.size))
      have HO4 := ghid (HO3.out.below hb4 (Nat.le_refl _))
      have hz4 : w.heap.size < w4.heap.size := lt_of_block HG4.out
      have hq5 : w1.heap.size < w4.heap.size := HO4.out.block.2
      clear hb4 CKK CK d0 d1 d2 d3 d4
      obtain ⟨d0, d1, d2, d3, d4⟩ := HO4.out.cells HRN.out
      have df := HO4.out.frozenAt
      simp only at d0 d1 d2 d3 d4
      have x0 := cell_of_row w4 w.heap.size 0 _ _ _ HG4.out
      have x1 := cell_of_row w4 w.heap.size 1 _ _ _ HG4.out
      have x2 := cell_of_row w4 w.heap.size 2 _ _ _ HG4.out
      simp only [List.getElem?_toArray, List.getElem?_cons_zero, List.getElem?_cons_succ] at x0 x1 x2
      have HOK := ghid (HO4.out.reps.each _ (List.mem_of_getElem? HRN.out))
      have HCI : Hid (∀ (W' : World), Below w4.heap.size w4 W' → ∀ (bx : Nat), (∀ j u, (keptCells ⟨q, rc, rn, rt⟩)[j]? = some u → W'.cell? ⟨bx, j, none⟩ = some u) → bx < W'.heap.size → Calls Tryz.prog 186 #[.slice (some ⟨kg, 0, none⟩) xk.length xk.length, .int .i64 p, .slice (some ⟨bx, 0, none⟩) 1 1] W' fun e w'' => ∃ lo nk lc, e = .returned (.slice lo nk lc) ∧ OwnK w'' w1.heap.size (.slice lo nk lc) (xk.take p ++ ⟨q, rc, rn, rt⟩ :: xk.drop p) ∧ (∀ b, (Value.slice lo nk lc).ownBlock = some b → w4.heap.size ≤ b) ∧ Below w4.heap.size w4 w'') := by
        intro W' hb' bx hx hbx
        refine (kinsert_at kg xk.length p xk ⟨q, rc, rn, rt⟩ bx W' w1.heap.size (HOK.out.below hb' (Nat.le_refl _)) rfl (by omega) hkin hx hbx (by have := hb'.size; omega) hrt).mono ?_
        rintro e w'' ⟨v', rfl, ho, hnb, hb⟩
        obtain ⟨lo, lc, rfl⟩ := grow_shape ho.row
        exact ⟨lo, _, lc, rfl, ho, fun b hb'' => Nat.le_trans hb'.size (hnb b hb''), hb'.trans (hb.mono hb'.size)⟩
      have HNW : Hid (∀ (W : World) j u, (keptCells ⟨q, rc, rn, rt⟩)[j]? = some u → (W.alloc (.cells #[.int .i64 q, .int .i64 rc, .int .i64 rn, .string rt] 168)).cell? ⟨W.heap.size, j, none⟩ = some u) := by
        intro W j u hj
        have := World.news_of_block (heap_alloc_new W (.cells #[.int .i64 q, .int .i64 rc, .int .i64 rn, .string rt] 168)) j u hj
        rwa [gadd, Nat.zero_add] at this
      go_upto_region 12 with fail
      go_cut [16] (fun ptr wx => ptr = .pointer (some ⟨w1.heap.size, n * 5, none⟩) ∧ ∃ lv6, OwnS wx w1.heap.size (.slice (some ⟨w1.heap.size, 0, none⟩) ls.length ls.length) (rs.set n (({ (⟨xc, xi, xa, xt, xk⟩ : SessD) with replies := xk.take p ++ ⟨q, rc, rn, rt⟩ :: xk.drop p }, lv6) : SessD × Value)) ∧ Below w1.heap.size w4 wx)
      case first =>
        go_region_with (first
          | (go_at_call 90; refine (copyReply_any rc rn rt _ hrt).mono ?_; rintro e w5 ⟨rfl, hb5⟩; have hb5' : Below w4.heap.size w4 w5 := ⟨hb5.os, hb5.tape, hb5.output, hb5.size, hb5.block⟩; have y4 : w5.cell? ⟨w1.heap.size, n * 5 + 4, none⟩ = some (.slice (some ⟨kg, 0, none⟩) xk.length xk.length) := ((hb5'.cell (p := ⟨w1.heap.size, n * 5 + 4, none⟩) hq5).trans d4); have z4 : w1.heap.size < w5.heap.size := (Nat.lt_of_lt_of_le hq5 hb5'.size); have hz5 : w4.heap.size ≤ w5.heap.size := hb5'.size)
          | (go_at_call 186; refine (HCI.out _ (hb5'.alloc hz5 _) w5.heap.size (HNW.out w5) (by simp)).mono ?_; rintro e w6 ⟨lo6, nk6, lc6, rfl, hok6, hnb6, hb6⟩; have y6 : w6.cell? ⟨w1.heap.size, n * 5 + 4, none⟩ = some (.slice (some ⟨kg, 0, none⟩) xk.length xk.length) := ((hb6.cell (p := ⟨w1.heap.size, n * 5 + 4, none⟩) hq5).trans d4); have yf6 : w6.frozen? ⟨w1.heap.size, n * 5 + 4, none⟩ = false := ((hb6.frozen (p := ⟨w1.heap.size, n * 5 + 4, none⟩) hq5).trans (df _))))
        all_goals
          go_wp2
          go_meet
          exact ⟨rfl, _, HO4.out.setReplies (ks := xk.take p ++ ⟨q, rc, rn, rt⟩ :: xk.drop p) HRN.out (TouchG.of_below hb6 (Nat.le_refl _) _) hok6 (fun b hb => Or.inr (hnb6 b hb)), Below.setCell (hb6.mono (Nat.le_of_lt hq5)) (Nat.le_refl _) _⟩
      case rest =>
        obtain ⟨rfl, lv6, hos, hbW⟩ := hcut
        have HB6 := ghid (HB4.out.trans (hbW.mono (by omega)))
        have hnr : n < rs.length := (List.getElem?_eq_some_iff.1 HRN.out).1
        have hri : (rs.set n (({ (⟨xc, xi, xa, xt, xk⟩ : SessD) with replies := xk.take p ++ ⟨q, rc, rn, rt⟩ :: xk.drop p }, lv6) : SessD × Value))[n]? = some (⟨xc, xi, xa, xt, xk.take p ++ ⟨q, rc, rn, rt⟩ :: xk.drop p⟩, lv6) := List.getElem?_set_self hnr
        obtain ⟨f0, f1, f2, f3, f4⟩ := hos.cells hri
        simp only at f0 f1 f2 f3 f4
        have hz7 : w1.heap.size < wc.heap.size := hos.block.2
        have CF := sinForm_any xc xi xa xt _ _ wc wc.heap.size ((hos.reps.each _ (List.mem_of_getElem? hri)).reads (Nat.le_refl _)) (Nat.le_refl _) hxa0 hxa1
        simp only at CF
        have HO6 := ghid hos
        obtain ⟨lo6, lc6, hlv⟩ := grow_shape (hos.reps.each _ (List.mem_of_getElem? hri)).row
        simp only at hlv
        obtain ⟨nk6, hnk6⟩ : ∃ nk6, nk6 = (xk.take p ++ (⟨q, rc, rn, rt⟩ : KeptD) :: xk.drop p).length := ⟨_, rfl⟩
        rw [← hnk6] at hlv
        clear hnk6
        subst hlv
        clear hos hbW hri d0 d1 d2 d3 d4 df x0 x1 x2
        rw [HFM.out] at CF
        go_wp2_with fail
        refine CF.mono ?_
        rintro e w7 ⟨rfl, hb7⟩
        have HB7 := ghid (HB6.out.trans (hb7.mono HB6.out.size))
        clear hb7 CF
        go_wp2
        refine bodyPost_ret (v := .tuple #[.slice none 0 0, .int .i64 2]) (by simp [results, Tryz.results142, go_sem]) rfl ?_
        exact ⟨_, rfl, SessR.nil _ _, HB7.out⟩
    · rw [he]
      rw [if_pos rfl, HKS.out]
      rw [hk] at CK
      have HFM : Hid (formFrom xa xa (xk.take (placeK xk q) ++ ⟨q, rc, rn, rt⟩ :: xk.drop (placeK xk q)) = true) := hf
      have HWK : Hid (withK xk ⟨q, rc, rn, rt⟩ = xk.take (placeK xk q) ++ ⟨q, rc, rn, rt⟩ :: xk.drop (placeK xk q)) := rfl
      rw [HWK.out]
      obtain ⟨p, hpe⟩ : ∃ p, p = placeK xk q := ⟨_, rfl⟩
      rw [← hpe] at CK hkin HFM ⊢
      clear he hk hpe hf HWK HKS
      go_enter Tryz.func142, Tryz.ntmps142
      go_wp2_with fail
      refine CR.mono ?_
      rintro e w1 ⟨rfl, hb1⟩
      have hz1 : w.heap.size < w1.heap.size := by have := hb1.size; simp at this; omega
      have HG1 := ghid ((hb1.block w.heap.size (by simp)).trans (heap_alloc_new w _))
      have HB1 := ghid (HB0.out.trans (hb1.mono (by simp)))
      clear hb1 CR
      go_wp2_with fail
      refine (sessCopy_any _ ls w1 B (HV.out.below HB1.out hB) (by have := HB1.out.size; omega)).mono ?_
      rintro e w2 ⟨rfl, rs, hrs, hown2, hsn, hb2⟩
      have HG2 := ghid ((hb2.block w.heap.size hz1).trans HG1.out)
      have HB2 := ghid (HB1.out.trans (hb2.mono HB1.out.size))
      have HRS := ghid hrs
      have HSN := ghid hsn
      have HO2 := ghid hown2
      have hrd := hown2.reads (Nat.le_refl _)
      rw [hrs] at hrd
      have hz2 : w.heap.size < w2.heap.size := lt_of_block HG2.out
      clear hb2 hown2 hrs hsn
      go_wp2_with fail
      refine (CP.out _ _ hrd).mono ?_
      rintro e w3 ⟨rfl, hb3⟩
      have HG3 := ghid ((hb3.block w.heap.size hz2).trans HG2.out)
      have HB3 := ghid (HB2.out.trans (hb3.mono HB2.out.size))
      have HO3 := ghid (HO2.out.below hb3 (Nat.le_refl _))
      have hz3 : w.heap.size < w3.heap.size := lt_of_block HG3.out
      have hq2 : w1.heap.size < w3.heap.size := HO3.out.block.2
      have hq3 : w.heap.size ≠ w1.heap.size := by omega
      have hq4 : w1.heap.size ≠ w.heap.size := by omega
      clear hb3 hrd CP HO2
      obtain ⟨xv, hrn⟩ := map_at HRS.out HX.out
      obtain ⟨kg, hkg⟩ := HSN.out _ (List.mem_of_getElem? hrn)
      simp only at hkg
      subst hkg
      have HRN := ghid hrn
      have hoks := HO3.out.reps.each _ (List.mem_of_getElem? hrn)
      obtain ⟨d0, d1, d2, d3, d4⟩ := HO3.out.cells hrn
      simp only at d0 d1 d2 d3 d4
      have hkr : kg ∈ repBlocks rs := mem_repBlocks.2 ⟨_, List.mem_of_getElem? hrn, rfl⟩
      have hkl := HO3.out.reps.lt hkr
      have hnl : (n : Int) < ls.length := by omega
      have CKK := CK.out _ w3 w3.heap.size (hoks.reads (Nat.le_refl _)) (Nat.le_refl _)
      clear hrn hkr hoks
      go_wp2_with fail
      refine CKK.mono ?_
      rintro e w4 ⟨rfl, hb4⟩
      have HG4 := ghid ((hb4.block w.heap.size hz3).trans HG3.out)
      have HB4 := ghid (HB3.out.trans (hb4.mono HB3.out.size))
      have HO4 := ghid (HO3.out.below hb4 (Nat.le_refl _))
      have hz4 : w.heap.size < w4.heap.size := lt_of_block HG4.out
      have hq5 : w1.heap.size < w4.heap.size := HO4.out.block.2
      clear hb4 CKK CK d0 d1 d2 d3 d4
      obtain ⟨d0, d1, d2, d3, d4⟩ := HO4.out.cells HRN.out
      have df := HO4.out.frozenAt
      simp only at d0 d1 d2 d3 d4
      have x0 := cell_of_row w4 w.heap.size 0 _ _ _ HG4.out
      have x1 := cell_of_row w4 w.heap.size 1 _ _ _ HG4.out
      have x2 := cell_of_row w4 w.heap.size 2 _ _ _ HG4.out
      simp only [List.getElem?_toArray, List.getElem?_cons_zero, List.getElem?_cons_succ] at x0 x1 x2
      have HOK := ghid (HO4.out.reps.each _ (List.mem_of_getElem? HRN.out))
      have HCI : Hid (∀ (W' : World), Below w4.heap.size w4 W' → ∀ (bx : Nat), (∀ j u, (keptCells ⟨q, rc, rn, rt⟩)[j]? = some u → W'.cell? ⟨bx, j, none⟩ = some u) → bx < W'.heap.size → Calls Tryz.prog 186 #[.slice (some ⟨kg, 0, none⟩) xk.length xk.length, .int .i64 p, .slice (some ⟨bx, 0, none⟩) 1 1] W' fun e w'' => ∃ lo nk lc, e = .returned (.slice lo nk lc) ∧ OwnK w'' w1.heap.size (.slice lo nk lc) (xk.take p ++ ⟨q, rc, rn, rt⟩ :: xk.drop p) ∧ (∀ b, (Value.slice lo nk lc).ownBlock = some b → w4.heap.size ≤ b) ∧ Below w4.heap.size w4 w'') := by
        intro W' hb' bx hx hbx
        refine (kinsert_at kg xk.length p xk ⟨q, rc, rn, rt⟩ bx W' w1.heap.size (HOK.out.below hb' (Nat.le_refl _)) rfl (by omega) hkin hx hbx (by have := hb'.size; omega) hrt).mono ?_
        rintro e w'' ⟨v', rfl, ho, hnb, hb⟩
        obtain ⟨lo, lc, rfl⟩ := grow_shape ho.row
        exact ⟨lo, _, lc, rfl, ho, fun b hb'' => Nat.le_trans hb'.size (hnb b hb''), hb'.trans (hb.mono hb'.size)⟩
      have HNW : Hid (∀ (W : World) j u, (keptCells ⟨q, rc, rn, rt⟩)[j]? = some u → (W.alloc (.cells #[.int .i64 q, .int .i64 rc, .int .i64 rn, .string rt] 168)).cell? ⟨W.heap.size, j, none⟩ = some u) := by
        intro W j u hj
        have := World.news_of_block (heap_alloc_new W (.cells #[.int .i64 q, .int .i64 rc, .int .i64 rn, .string rt] 168)) j u hj
        rwa [gadd, Nat.zero_add] at this
      go_upto_region 12 with fail
      go_cut [16] (fun ptr wx => ptr = .pointer (some ⟨w1.heap.size, n * 5, none⟩) ∧ ∃ lv6, OwnS wx w1.heap.size (.slice (some ⟨w1.heap.size, 0, none⟩) ls.length ls.length) (rs.set n (({ (⟨xc, xi, xa, xt, xk⟩ : SessD) with replies := xk.take p ++ ⟨q, rc, rn, rt⟩ :: xk.drop p }, lv6) : SessD × Value)) ∧ Below w1.heap.size w4 wx)
      case first =>
        go_region_with (first
          | (go_at_call 90; refine (copyReply_any rc rn rt _ hrt).mono ?_; rintro e w5 ⟨rfl, hb5⟩; have hb5' : Below w4.heap.size w4 w5 := ⟨hb5.os, hb5.tape, hb5.output, hb5.size, hb5.block⟩; have y4 : w5.cell? ⟨w1.heap.size, n * 5 + 4, none⟩ = some (.slice (some ⟨kg, 0, none⟩) xk.length xk.length) := ((hb5'.cell (p := ⟨w1.heap.size, n * 5 + 4, none⟩) hq5).trans d4); have z4 : w1.heap.size < w5.heap.size := (Nat.lt_of_lt_of_le hq5 hb5'.size); have hz5 : w4.heap.size ≤ w5.heap.size := hb5'.size)
          | (go_at_call 186; refine (HCI.out _ (hb5'.alloc hz5 _) w5.heap.size (HNW.out w5) (by simp)).mono ?_; rintro e w6 ⟨lo6, nk6, lc6, rfl, hok6, hnb6, hb6⟩; have y6 : w6.cell? ⟨w1.heap.size, n * 5 + 4, none⟩ = some (.slice (some ⟨kg, 0, none⟩) xk.length xk.length) := ((hb6.cell (p := ⟨w1.heap.size, n * 5 + 4, none⟩) hq5).trans d4); have yf6 : w6.frozen? ⟨w1.heap.size, n * 5 + 4, none⟩ = false := ((hb6.frozen (p := ⟨w1.heap.size, n * 5 + 4, none⟩) hq5).trans (df _))))
        all_goals
          go_wp2
          go_meet
          exact ⟨rfl, _, HO4.out.setReplies (ks := xk.take p ++ ⟨q, rc, rn, rt⟩ :: xk.drop p) HRN.out (TouchG.of_below hb6 (Nat.le_refl _) _) hok6 (fun b hb => Or.inr (hnb6 b hb)), Below.setCell (hb6.mono (Nat.le_of_lt hq5)) (Nat.le_refl _) _⟩
      case rest =>
        obtain ⟨rfl, lv6, hos, hbW⟩ := hcut
        have HB6 := ghid (HB4.out.trans (hbW.mono (by omega)))
        have hnr : n < rs.length := (List.getElem?_eq_some_iff.1 HRN.out).1
        have hri : (rs.set n (({ (⟨xc, xi, xa, xt, xk⟩ : SessD) with replies := xk.take p ++ ⟨q, rc, rn, rt⟩ :: xk.drop p }, lv6) : SessD × Value))[n]? = some (⟨xc, xi, xa, xt, xk.take p ++ ⟨q, rc, rn, rt⟩ :: xk.drop p⟩, lv6) := List.getElem?_set_self hnr
        obtain ⟨f0, f1, f2, f3, f4⟩ := hos.cells hri
        simp only at f0 f1 f2 f3 f4
        have hz7 : w1.heap.size < wc.heap.size := hos.block.2
        have CF := sinForm_any xc xi xa xt _ _ wc wc.heap.size ((hos.reps.each _ (List.mem_of_getElem? hri)).reads (Nat.le_refl _)) (Nat.le_refl _) hxa0 hxa1
        simp only at CF
        have HO6 := ghid hos
        obtain ⟨lo6, lc6, hlv⟩ := grow_shape (hos.reps.each _ (List.mem_of_getElem? hri)).row
        simp only at hlv
        obtain ⟨nk6, hnk6⟩ : ∃ nk6, nk6 = (xk.take p ++ (⟨q, rc, rn, rt⟩ : KeptD) :: xk.drop p).length := ⟨_, rfl⟩
        rw [← hnk6] at hlv
        clear hnk6
        subst hlv
        clear hos hbW hri d0 d1 d2 d3 d4 df x0 x1 x2
        rw [HFM.out] at CF
        go_wp2_with fail
        refine CF.mono ?_
        rintro e w7 ⟨rfl, hb7⟩
        have HB7 := ghid (HB6.out.trans (hb7.mono HB6.out.size))
        have HO7 := ghid (HO6.out.below hb7 (Nat.le_refl _))
        have HM : Hid ((rs.set n (({ (⟨xc, xi, xa, xt, xk⟩ : SessD) with replies := xk.take p ++ ⟨q, rc, rn, rt⟩ :: xk.drop p }, Value.slice lo6 nk6 lc6) : SessD × Value)).map (·.1) = ls.set n ⟨xc, xi, xa, xt, xk.take p ++ ⟨q, rc, rn, rt⟩ :: xk.drop p⟩) := by
          unfold Hid
          rw [List.map_set, HRS.out]
        clear hb7 CF
        go_wp2
        refine bodyPost_ret (v := .tuple #[.slice (some ⟨w1.heap.size, 0, none⟩) ls.length ls.length, .int .i64 0]) (by simp [results, Tryz.results142, go_sem]) rfl ?_
        have t := HO7.out.reads (Nat.le_refl _)
        rw [HM.out] at t
        exact ⟨_, rfl, t, HB7.out⟩

end Go.Proofs.YtijilhbdbeajjaaGreatDoor
