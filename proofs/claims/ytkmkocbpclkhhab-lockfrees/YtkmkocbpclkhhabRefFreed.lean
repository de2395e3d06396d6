/- The document's FreedOf. -/
import Derived.Test.YtkmkocbpclkhhabRefTaken2
import Derived.Test.YtkmkocbpclkhhabRefPassed2
namespace Go.Proofs.Ytkmkocbpclkhhab
open Go.RowKit
set_option linter.unusedVariables false

set_option maxRecDepth 100000 in
set_option maxHeartbeats 1600000 in
theorem freedOf_bad (v : Value) (ls : List LockD) (nm : ByteArray) (who : Int) (w : World) (B : Nat) (hv : LocksR w B v ls) (hB : B ≤ w.heap.size) (hs : nm.size ≤ 140737488351232) (hr : refuseL ls nm who ≠ 0) :
    Calls Try.prog 21 #[v, .string nm, .int .i64 who] w fun e w' => e = .returned (.tuple #[.slice none 0 0, replyV 0 0, .int .i64 (refuseL ls nm who)]) ∧ Below w.heap.size w w' := by
  have hb0 : Below w.heap.size w (w.alloc (.cells #[.int .i64 0, .int .i64 0, .string ⟨#[]⟩] 34)) := (Below.refl _ _).alloc (Nat.le_refl _) _
  have CR := asked_any v ls nm who _ B (hv.below hb0 hB) (by simp; omega) hs
  obtain ⟨ao, cap, rfl, -⟩ := hv
  obtain ⟨c, hc⟩ : ∃ c, c = refuseL ls nm who := ⟨_, rfl⟩
  rw [← hc] at CR hr ⊢
  clear hc
  have hr2 : (c != 0) = true := by simpa using hr
  clear hr
  go_enter Try.func21, Try.ntmps21
  go_wp2_with fail
  refine CR.mono ?_
  rintro e w1 ⟨rfl, hb1⟩
  have HR1 : ReplyAt w1 w.heap.size := ReplyAt.below (heap_alloc_new w _) hb1 (by simp)
  obtain ⟨r0, r1, r2, rf⟩ := HR1.cells
  have HB := Hid.mk' (hb0.trans (hb1.mono (by simp)))
  clear hb1 HR1 hb0
  go_wp2
  refine bodyPost_ret (v := .tuple #[.slice none 0 0, replyV 0 0, .int .i64 c]) (by simp [results, Try.results21, go_sem, replyV, r0, r1, r2]) rfl ⟨rfl, ?_⟩
  exact ((HB.out.setCell (Nat.le_refl _) _).setCell (Nat.le_refl _) _).setCell (Nat.le_refl _) _

set_option maxRecDepth 100000 in
set_option maxHeartbeats 1600000 in
theorem freedOf_none (v : Value) (ls : List LockD) (nm : ByteArray) (who : Int) (w : World) (B : Nat) (hv : LocksR w B v ls) (hB : B ≤ w.heap.size) (hs : nm.size ≤ 140737488351232) (hr : refuseL ls nm who = 0) (hck : checkL ls = 0) (hat : ¬ atL ls nm < ls.length) :
    Calls Try.prog 21 #[v, .string nm, .int .i64 who] w fun e w' => ∃ v', e = .returned (.tuple #[v', replyV (freeL ls nm who).2.1 (freeL ls nm who).2.2, .int .i64 0]) ∧ LocksR w' w'.heap.size v' (freeL ls nm who).1 ∧ Below w.heap.size w w' := by
  have hb0 : Below w.heap.size w (w.alloc (.cells #[.int .i64 0, .int .i64 0, .string ⟨#[]⟩] 34)) := (Below.refl _ _).alloc (Nat.le_refl _) _
  have hv0 := hv.below hb0 hB
  have CR := asked_any v ls nm who _ B hv0 (by simp; omega) hs
  rw [hr] at CR
  obtain ⟨hx5, -⟩ := check_each hck
  have hxm : ∀ (j : Nat) (y : LockD), ls[j]? = some y → eqN y.name nm = false := fun j y hy => atL_none hat j y hy
  have htx2 : freeL ls nm who = (ls, 6, 0) := by unfold freeL; rw [dif_neg hat]
  rw [htx2]
  have HV0 := Hid.mk' hv0
  have HM := Hid.mk' hxm
  have hll := hv.len
  obtain ⟨ao, cap, rfl, -⟩ := hv
  clear hr hck hxm htx2 hv0 hat
  simp only
  go_enter Try.func21, Try.ntmps21
  go_wp2_with fail
  refine CR.mono ?_
  rintro e w1 ⟨rfl, hb1⟩
  have HR1 := Hid.mk' (ReplyAt.below (heap_alloc_new w _) hb1 (by simp))
  have hv1 := HV0.out.below hb1 (by simp; omega)
  have HB1 := Hid.mk' (hb0.trans (hb1.mono (by simp)))
  have hz1 : B ≤ w1.heap.size := by have := HB1.out.size; omega
  clear hb1 hb0 CR HV0
  go_wp2_with fail
  refine (locksCopy_any _ ls w1 B hv1 hz1).mono ?_
  rintro e w2 ⟨v2, rs, rfl, hrs, hown2, hb2⟩
  have HR2 := Hid.mk' (HR1.out.below hb2 HR1.out.lt)
  have HB2 := Hid.mk' (HB1.out.trans (hb2.mono HB1.out.size))
  have hrd := hown2.reads (Nat.le_refl _)
  rw [hrs] at hrd
  have CA := lockAt_none v2 ls nm w2 _ hrd HM.out
  have hrl : rs.length = ls.length := by rw [← hrs, List.length_map]
  have HO2 := Hid.mk' hown2
  obtain ⟨oo, oc, e2⟩ := ownsRow_shape hown2.row
  rw [hrl] at e2
  subst e2
  obtain ⟨r0, r1, r2, rf⟩ := HR2.out.cells
  have hRw : w.heap.size < w1.heap.size := HR1.out.lt
  have HRS := Hid.mk' hrs
  clear hb2 hown2 hrs hv1 hrd hrl
  go_wp2_with fail
  refine CA.mono ?_
  rintro e w3 ⟨rfl, rfl⟩
  clear CA
  go_wp2
  refine bodyPost_ret (v := .tuple #[.slice oo ls.length oc, replyV 6 0, .int .i64 0]) (by simp [results, Try.results21, go_sem, replyV, r0, r1, r2]) rfl ⟨_, rfl, ?_, below3 HB2.out (Nat.le_refl _) _ _ _⟩
  have K := HO2.out.readsLow hRw (.int .i64 6) (.int .i64 0) (.string ⟨#[]⟩) rfl
  rwa [HRS.out] at K

set_option maxRecDepth 100000 in
set_option maxHeartbeats 1600000 in
theorem freedOf_held (v : Value) (ls : List LockD) (nm : ByteArray) (who : Int) (w : World) (B i : Nat) (xn : ByteArray) (xh xf : Int) (xl : List Int) (hv : LocksR w B v ls) (hB : B ≤ w.heap.size) (hs : nm.size ≤ 140737488351232) (hr : refuseL ls nm who = 0) (hx : ls[i]? = some ⟨xn, xh, xf, xl⟩) (hxe : eqN xn nm = true) (hxm : ∀ (j : Nat) (y : LockD), j < i → ls[j]? = some y → eqN y.name nm = false) (hf1 : 1 ≤ xf) (hf2 : xf ≤ 1073741824) (hl3 : xl.length ≤ 3) (hw : ¬ xh = who) (hh : hasB who xl = false) :
    Calls Try.prog 21 #[v, .string nm, .int .i64 who] w fun e w' => ∃ v', e = .returned (.tuple #[v', replyV 10 xh, .int .i64 0]) ∧ LocksR w' w'.heap.size v' (ls.set i ⟨xn, xh, xf, xl⟩) ∧ Below w.heap.size w w' := by
  have hb0 : Below w.heap.size w (w.alloc (.cells #[.int .i64 0, .int .i64 0, .string ⟨#[]⟩] 34)) := (Below.refl _ _).alloc (Nat.le_refl _) _
  have hv0 := hv.below hb0 hB
  have CR := asked_any v ls nm who _ B hv0 (by simp; omega) hs
  rw [hr] at CR
  have HV0 := Hid.mk' hv0
  have HX := Hid.mk' hx
  have HXS := Hid.mk' hx
  have HM := Hid.mk' hxm
  have hll := hv.len
  have hil : i < ls.length := (List.getElem?_eq_some_iff.1 hx).1
  obtain ⟨ao, cap, rfl, -⟩ := hv
  clear hr hx hxm hv0
  go_enter Try.func21, Try.ntmps21
  go_wp2_with fail
  refine CR.mono ?_
  rintro e w1 ⟨rfl, hb1⟩
  have HR1 := Hid.mk' (ReplyAt.below (heap_alloc_new w _) hb1 (by simp))
  have hv1 := HV0.out.below hb1 (by simp; omega)
  have HB1 := Hid.mk' (hb0.trans (hb1.mono (by simp)))
  have hz1 : B ≤ w1.heap.size := by have := HB1.out.size; omega
  clear hb1 hb0 CR HV0
  go_wp2_with fail
  refine (locksCopy_any _ ls w1 B hv1 hz1).mono ?_
  rintro e w2 ⟨v2, rs, rfl, hrs, hown2, hb2⟩
  have HR2 := Hid.mk' (HR1.out.below hb2 HR1.out.lt)
  have HB2 := Hid.mk' (HB1.out.trans (hb2.mono HB1.out.size))
  have hrd := hown2.reads (Nat.le_refl _)
  rw [hrs] at hrd
  have CA := lockAt_found v2 ls nm i _ w2 _ hrd HX.out hxe HM.out
  have hrl : rs.length = ls.length := by rw [← hrs, List.length_map]
  obtain ⟨g, oc, e2, hg1, hg2⟩ := hown2.row.form (by omega)
  rw [hrl] at e2
  subst e2
  obtain ⟨r, hr, hrx⟩ : ∃ r, rs[i]? = some r ∧ r.1 = ⟨xn, xh, xf, xl⟩ := by
    have := HX.out
    rw [← hrs, List.getElem?_map] at this
    exact Option.map_eq_some_iff.1 this
  obtain ⟨p, s, hps, hpl⟩ := split_at hr
  obtain ⟨rx, lv⟩ := r
  simp only at hrx
  subst hrx
  subst hps
  subst hpl
  have c0 := hown2.cellAt 0 (by omega)
  have c1 := hown2.cellAt 1 (by omega)
  have c2 := hown2.cellAt 2 (by omega)
  have c3 := hown2.cellAt 3 (by omega)
  simp only [lockCells, List.getElem?_cons_zero, List.getElem?_cons_succ, Nat.add_zero] at c0 c1 c2 c3
  have hfz := hown2.frozenAt
  have hline := hown2.line
  simp only at hline
  obtain ⟨r0, r1, r2, rf⟩ := HR2.out.cells
  have hRw : w.heap.size < w1.heap.size := HR1.out.lt
  have hRg : w.heap.size ≠ g := by omega
  have hgR : g ≠ w.heap.size := by omega
  have hR2 : w.heap.size < w2.heap.size := HR2.out.lt
  have hR2n : w.heap.size ≠ w2.heap.size := by omega
  have hR2m : w2.heap.size ≠ w.heap.size := by omega
  have hg2n : g ≠ w2.heap.size := by omega
  have hg2m : w2.heap.size ≠ g := by omega
  have HO2 := Hid.mk' hown2
  have HRS := Hid.mk' hrs
  have HLN := Hid.mk' hline
  obtain ⟨lo, lc, rfl⟩ := ownsRow_shape hline.1
  clear hb2 hown2 hrs hv1 hrd hrl hr hline HX
  go_wp2_with fail
  refine CA.mono ?_
  rintro e w3 ⟨rfl, rfl⟩
  clear CA HM
  have CH := has_any (.slice lo xl.length lc) xl who w3 w3.heap.size (ownsRow_ints HLN.out.1 HLN.out.2.1 (Nat.le_refl _))
  rw [hh] at CH
  have HCH := Hid.mk' CH
  clear CH
  go_wp2_with fail
  refine HCH.out.mono ?_
  rintro e w3 ⟨rfl, rfl⟩
  go_wp2_with fail
  go_region
  go_wp2
  refine bodyPost_ret (v := .tuple #[.slice (some ⟨g, 0, none⟩) ls.length oc, replyV (10) (xh), .int .i64 0]) (by simp [results, Try.results21, go_sem, replyV, r0, r1, r2]) rfl ⟨_, rfl, ?_, ?_⟩
  · have K := HO2.out.readsLow hRw (.int .i64 10) (.int .i64 xh) (.string ⟨#[]⟩) rfl
    rw [HRS.out] at K
    rw [set_self HXS.out]
    exact K.drew
  · exact (below3 HB2.out (Nat.le_refl _) _ _ _).drew

set_option maxRecDepth 100000 in
set_option maxHeartbeats 1600000 in
theorem freedOf_lined (v : Value) (ls : List LockD) (nm : ByteArray) (who : Int) (w : World) (B i : Nat) (xn : ByteArray) (xh xf : Int) (xl : List Int) (hv : LocksR w B v ls) (hB : B ≤ w.heap.size) (hs : nm.size ≤ 140737488351232) (hr : refuseL ls nm who = 0) (hx : ls[i]? = some ⟨xn, xh, xf, xl⟩) (hxe : eqN xn nm = true) (hxm : ∀ (j : Nat) (y : LockD), j < i → ls[j]? = some y → eqN y.name nm = false) (hf1 : 1 ≤ xf) (hf2 : xf ≤ 1073741824) (hl3 : xl.length ≤ 3) (hw : ¬ xh = who) (hh : hasB who xl = true) :
    Calls Try.prog 21 #[v, .string nm, .int .i64 who] w fun e w' => ∃ v', e = .returned (.tuple #[v', replyV 0 xh, .int .i64 0]) ∧ LocksR w' w'.heap.size v' (ls.set i ⟨xn, xh, xf, xl.filter (· != who)⟩) ∧ Below w.heap.size w w' := by
  have hb0 : Below w.heap.size w (w.alloc (.cells #[.int .i64 0, .int .i64 0, .string ⟨#[]⟩] 34)) := (Below.refl _ _).alloc (Nat.le_refl _) _
  have hv0 := hv.below hb0 hB
  have CR := asked_any v ls nm who _ B hv0 (by simp; omega) hs
  rw [hr] at CR
  have HV0 := Hid.mk' hv0
  have HX := Hid.mk' hx
  have HXS := Hid.mk' hx
  have HM := Hid.mk' hxm
  have hll := hv.len
  have hil : i < ls.length := (List.getElem?_eq_some_iff.1 hx).1
  obtain ⟨ao, cap, rfl, -⟩ := hv
  clear hr hx hxm hv0
  go_enter Try.func21, Try.ntmps21
  go_wp2_with fail
  refine CR.mono ?_
  rintro e w1 ⟨rfl, hb1⟩
  have HR1 := Hid.mk' (ReplyAt.below (heap_alloc_new w _) hb1 (by simp))
  have hv1 := HV0.out.below hb1 (by simp; omega)
  have HB1 := Hid.mk' (hb0.trans (hb1.mono (by simp)))
  have hz1 : B ≤ w1.heap.size := by have := HB1.out.size; omega
  clear hb1 hb0 CR HV0
  go_wp2_with fail
  refine (locksCopy_any _ ls w1 B hv1 hz1).mono ?_
  rintro e w2 ⟨v2, rs, rfl, hrs, hown2, hb2⟩
  have HR2 := Hid.mk' (HR1.out.below hb2 HR1.out.lt)
  have HB2 := Hid.mk' (HB1.out.trans (hb2.mono HB1.out.size))
  have hrd := hown2.reads (Nat.le_refl _)
  rw [hrs] at hrd
  have CA := lockAt_found v2 ls nm i _ w2 _ hrd HX.out hxe HM.out
  have hrl : rs.length = ls.length := by rw [← hrs, List.length_map]
  obtain ⟨g, oc, e2, hg1, hg2⟩ := hown2.row.form (by omega)
  rw [hrl] at e2
  subst e2
  obtain ⟨r, hr, hrx⟩ : ∃ r, rs[i]? = some r ∧ r.1 = ⟨xn, xh, xf, xl⟩ := by
    have := HX.out
    rw [← hrs, List.getElem?_map] at this
    exact Option.map_eq_some_iff.1 this
  obtain ⟨p, s, hps, hpl⟩ := split_at hr
  obtain ⟨rx, lv⟩ := r
  simp only at hrx
  subst hrx
  subst hps
  subst hpl
  have c0 := hown2.cellAt 0 (by omega)
  have c1 := hown2.cellAt 1 (by omega)
  have c2 := hown2.cellAt 2 (by omega)
  have c3 := hown2.cellAt 3 (by omega)
  simp only [lockCells, List.getElem?_cons_zero, List.getElem?_cons_succ, Nat.add_zero] at c0 c1 c2 c3
  have hfz := hown2.frozenAt
  have hline := hown2.line
  simp only at hline
  obtain ⟨r0, r1, r2, rf⟩ := HR2.out.cells
  have hRw : w.heap.size < w1.heap.size := HR1.out.lt
  have hRg : w.heap.size ≠ g := by omega
  have hgR : g ≠ w.heap.size := by omega
  have hR2 : w.heap.size < w2.heap.size := HR2.out.lt
  have hR2n : w.heap.size ≠ w2.heap.size := by omega
  have hR2m : w2.heap.size ≠ w.heap.size := by omega
  have hg2n : g ≠ w2.heap.size := by omega
  have hg2m : w2.heap.size ≠ g := by omega
  have HO2 := Hid.mk' hown2
  have HRS := Hid.mk' hrs
  have HLN := Hid.mk' hline
  obtain ⟨lo, lc, rfl⟩ := ownsRow_shape hline.1
  clear hb2 hown2 hrs hv1 hrd hrl hr hline HX
  go_wp2_with fail
  refine CA.mono ?_
  rintro e w3 ⟨rfl, rfl⟩
  clear CA HM
  have CH := has_any (.slice lo xl.length lc) xl who w3 w3.heap.size (ownsRow_ints HLN.out.1 HLN.out.2.1 (Nat.le_refl _))
  rw [hh] at CH
  have HCH := Hid.mk' CH
  clear CH
  go_wp2_with fail
  refine HCH.out.mono ?_
  rintro e w3 ⟨rfl, rfl⟩
  have CU := unlined_any (.slice lo xl.length lc) xl who w3 w3.heap.size (ownsRow_ints HLN.out.1 HLN.out.2.1 (Nat.le_refl _)) (Nat.le_refl _)
  go_wp2_with fail
  refine CU.mono ?_
  rintro e w5 ⟨lv, rfl, hown5, hb5⟩
  have hfl : (xl.filter (· != who)).length ≤ xl.length := List.length_filter_le _ _
  have kg : ∀ j, w5.cell? ⟨g, j, none⟩ = w3.cell? ⟨g, j, none⟩ := fun j => hb5.cell (p := ⟨g, j, none⟩) hg2
  have kf : ∀ j, w5.frozen? ⟨g, j, none⟩ = w3.frozen? ⟨g, j, none⟩ := fun j => World.frozen?_of_block (w := w3) (hb5.block g hg2)
  have kR : ∀ j, w5.cell? ⟨w.heap.size, j, none⟩ = w3.cell? ⟨w.heap.size, j, none⟩ := fun j => hb5.cell (p := ⟨w.heap.size, j, none⟩) hR2
  have kRf : ∀ j, w5.frozen? ⟨w.heap.size, j, none⟩ = w3.frozen? ⟨w.heap.size, j, none⟩ := fun j => World.frozen?_of_block (w := w3) (hb5.block w.heap.size hR2)
  have hz31 : w1.heap.size ≤ w3.heap.size := by have := hg1; omega
  have HO5 : Hid (OwnL (w5.setCell ⟨g, p.length * 4 + 3, none⟩ lv) w1.heap.size (.slice (some ⟨g, 0, none⟩) ls.length oc) (p ++ (⟨xn, xh, xf, xl.filter (· != who)⟩, lv) :: s)) :=
    HO2.out.setLine ⟨hb5.os, hb5.tape, hb5.output, hb5.size, fun k hk _ => hb5.block k hk⟩ (ownsRow_mono hown5 hz31) (by omega) (fun b hb => Or.inr (hown5.lt b hb).1)
  have HB5 := Hid.mk' (HB2.out.trans (hb5.mono (by omega)))
  obtain ⟨vo, vc, rfl⟩ := ownsRow_shape hown5
  clear hown5 hb5 CU
  go_wp2_with fail
  go_region
  go_wp2
  refine bodyPost_ret (v := .tuple #[.slice (some ⟨g, 0, none⟩) ls.length oc, replyV (0) (xh), .int .i64 0]) (by simp [results, Try.results21, go_sem, replyV, r0, r1, r2, kR]) rfl ⟨_, rfl, ?_, ?_⟩
  · have K := HO5.out.readsLow hRw (.int .i64 0) (.int .i64 xh) (.string ⟨#[]⟩) rfl
    rw [map_mid p s (⟨xn, xh, xf, xl⟩, .slice lo xl.length lc), HRS.out] at K
    exact K.drew
  · exact (below3 (HB5.out.setCell (by show w.heap.size ≤ g; omega) _) (Nat.le_refl _) _ _ _).drew

set_option maxRecDepth 100000 in
set_option maxHeartbeats 1600000 in
theorem freedOf_passed (v : Value) (ls : List LockD) (nm : ByteArray) (who : Int) (w : World) (B i : Nat) (xn : ByteArray) (xh xf : Int) (xl : List Int) (hv : LocksR w B v ls) (hB : B ≤ w.heap.size) (hs : nm.size ≤ 140737488351232) (hr : refuseL ls nm who = 0) (hx : ls[i]? = some ⟨xn, xh, xf, xl⟩) (hxe : eqN xn nm = true) (hxm : ∀ (j : Nat) (y : LockD), j < i → ls[j]? = some y → eqN y.name nm = false) (hf1 : 1 ≤ xf) (hf2 : xf ≤ 1073741824) (hl3 : xl.length ≤ 3) (hw : xh = who) (hn : xn.size ≤ 140737488351232) (yn : ByteArray) (yh yf : Int) (yl : List Int) (hy : giveUpX ⟨xn, xh, xf, xl⟩ = ⟨yn, yh, yf, yl⟩) :
    Calls Try.prog 21 #[v, .string nm, .int .i64 who] w fun e w' => ∃ v', e = .returned (.tuple #[v', replyV 0 yh, .int .i64 0]) ∧ LocksR w' w'.heap.size v' (ls.set i ⟨yn, yh, yf, yl⟩) ∧ Below w.heap.size w w' := by
  subst hw
  have hyn : yn.size ≤ 140737488351232 := by
    unfold giveUpX at hy
    split at hy
    · simp only [LockD.mk.injEq] at hy; rw [← hy.1]; exact hn
    · split at hy <;> (simp only [LockD.mk.injEq] at hy; rw [← hy.1]; exact hn)
  have hyl : yl.length ≤ 3 := by
    unfold giveUpX at hy
    split at hy
    · simp only [LockD.mk.injEq] at hy; rw [← hy.2.2.2]; simp
    · rename_i a t e
      simp only at e
      subst e
      simp only [List.length_cons] at hl3
      split at hy <;> (simp only [LockD.mk.injEq] at hy; rw [← hy.2.2.2]; first | simp | omega)
  have HY := Hid.mk' hy
  clear hy
  have hb0 : Below w.heap.size w (w.alloc (.cells #[.int .i64 0, .int .i64 0, .string ⟨#[]⟩] 34)) := (Below.refl _ _).alloc (Nat.le_refl _) _
  have hv0 := hv.below hb0 hB
  have CR := asked_any v ls nm xh _ B hv0 (by simp; omega) hs
  rw [hr] at CR
  have HV0 := Hid.mk' hv0
  have HX := Hid.mk' hx
  have HXS := Hid.mk' hx
  have HM := Hid.mk' hxm
  have hll := hv.len
  have hil : i < ls.length := (List.getElem?_eq_some_iff.1 hx).1
  obtain ⟨ao, cap, rfl, -⟩ := hv
  clear hr hx hxm hv0
  go_enter Try.func21, Try.ntmps21
  go_wp2_with fail
  refine CR.mono ?_
  rintro e w1 ⟨rfl, hb1⟩
  have HR1 := Hid.mk' (ReplyAt.below (heap_alloc_new w _) hb1 (by simp))
  have hv1 := HV0.out.below hb1 (by simp; omega)
  have HB1 := Hid.mk' (hb0.trans (hb1.mono (by simp)))
  have hz1 : B ≤ w1.heap.size := by have := HB1.out.size; omega
  clear hb1 hb0 CR HV0
  go_wp2_with fail
  refine (locksCopy_any _ ls w1 B hv1 hz1).mono ?_
  rintro e w2 ⟨v2, rs, rfl, hrs, hown2, hb2⟩
  have HR2 := Hid.mk' (HR1.out.below hb2 HR1.out.lt)
  have HB2 := Hid.mk' (HB1.out.trans (hb2.mono HB1.out.size))
  have hrd := hown2.reads (Nat.le_refl _)
  rw [hrs] at hrd
  have CA := lockAt_found v2 ls nm i _ w2 _ hrd HX.out hxe HM.out
  have hrl : rs.length = ls.length := by rw [← hrs, List.length_map]
  obtain ⟨g, oc, e2, hg1, hg2⟩ := hown2.row.form (by omega)
  rw [hrl] at e2
  subst e2
  obtain ⟨r, hr, hrx⟩ : ∃ r, rs[i]? = some r ∧ r.1 = ⟨xn, xh, xf, xl⟩ := by
    have := HX.out
    rw [← hrs, List.getElem?_map] at this
    exact Option.map_eq_some_iff.1 this
  obtain ⟨p, s, hps, hpl⟩ := split_at hr
  obtain ⟨rx, lv⟩ := r
  simp only at hrx
  subst hrx
  subst hps
  subst hpl
  have c0 := hown2.cellAt 0 (by omega)
  have c1 := hown2.cellAt 1 (by omega)
  have c2 := hown2.cellAt 2 (by omega)
  have c3 := hown2.cellAt 3 (by omega)
  simp only [lockCells, List.getElem?_cons_zero, List.getElem?_cons_succ, Nat.add_zero] at c0 c1 c2 c3
  have hfz := hown2.frozenAt
  have hline := hown2.line
  simp only at hline
  obtain ⟨r0, r1, r2, rf⟩ := HR2.out.cells
  have hRw : w.heap.size < w1.heap.size := HR1.out.lt
  have hRg : w.heap.size ≠ g := by omega
  have hgR : g ≠ w.heap.size := by omega
  have hR2 : w.heap.size < w2.heap.size := HR2.out.lt
  have hR2n : w.heap.size ≠ w2.heap.size := by omega
  have hR2m : w2.heap.size ≠ w.heap.size := by omega
  have hg2n : g ≠ w2.heap.size := by omega
  have hg2m : w2.heap.size ≠ g := by omega
  have HO2 := Hid.mk' hown2
  have HRS := Hid.mk' hrs
  have HLN := Hid.mk' hline
  obtain ⟨lo, lc, rfl⟩ := ownsRow_shape hline.1
  clear hb2 hown2 hrs hv1 hrd hrl hr hline HX
  go_wp2_with fail
  refine CA.mono ?_
  rintro e w3 ⟨rfl, rfl⟩
  clear CA HM
  have CP := passed_any ⟨xn, xh, xf, xl⟩ (.slice lo xl.length lc) w3 w3.heap.size (ownsRow_ints HLN.out.1 HLN.out.2.1 (Nat.le_refl _)) (Nat.le_refl _) (Nat.le_succ_of_le hl3) hf1 hf2
  rw [HY.out] at CP
  simp only at CP
  go_wp2_with fail
  refine CP.mono ?_
  rintro e w5 ⟨lv, rfl, hown5, hb5⟩
  have kg : ∀ j, w5.cell? ⟨g, j, none⟩ = w3.cell? ⟨g, j, none⟩ := fun j => hb5.cell (p := ⟨g, j, none⟩) hg2
  have kf : ∀ j, w5.frozen? ⟨g, j, none⟩ = w3.frozen? ⟨g, j, none⟩ := fun j => World.frozen?_of_block (w := w3) (hb5.block g hg2)
  have kR : ∀ j, w5.cell? ⟨w.heap.size, j, none⟩ = w3.cell? ⟨w.heap.size, j, none⟩ := fun j => hb5.cell (p := ⟨w.heap.size, j, none⟩) hR2
  have kRf : ∀ j, w5.frozen? ⟨w.heap.size, j, none⟩ = w3.frozen? ⟨w.heap.size, j, none⟩ := fun j => World.frozen?_of_block (w := w3) (hb5.block w.heap.size hR2)
  have hz31 : w1.heap.size ≤ w3.heap.size := by have := hg1; omega
  have HO5 : Hid (OwnL ((((w5.setCell ⟨g, p.length * 4, none⟩ (.string yn)).setCell ⟨g, p.length * 4 + 1, none⟩ (.int .i64 yh)).setCell ⟨g, p.length * 4 + 2, none⟩ (.int .i64 yf)).setCell ⟨g, p.length * 4 + 3, none⟩ lv) w1.heap.size (.slice (some ⟨g, 0, none⟩) ls.length oc) (p ++ (⟨yn, yh, yf, yl⟩, lv) :: s)) :=
    HO2.out.putAll (x := ⟨yn, yh, yf, yl⟩) hb5 hz31 hown5 (by show yl.length * 8 ≤ _; omega) hyn
  have HB5 := Hid.mk' (HB2.out.trans (hb5.mono (by omega)))
  obtain ⟨vo, vc, rfl⟩ := ownsRow_shape hown5
  clear hown5 hb5 CP
  go_wp2_with fail
  go_region
  go_wp2
  refine bodyPost_ret (v := .tuple #[.slice (some ⟨g, 0, none⟩) ls.length oc, replyV (0) (yh), .int .i64 0]) (by simp [results, Try.results21, go_sem, replyV, r0, r1, r2, kR]) rfl ⟨_, rfl, ?_, ?_⟩
  · have K := HO5.out.readsLow hRw (.int .i64 0) (.int .i64 yh) (.string ⟨#[]⟩) rfl
    rw [map_mid p s (⟨xn, xh, xf, xl⟩, .slice lo xl.length lc), HRS.out] at K
    exact K.drew
  · exact (below3 ((((HB5.out.setCell (by show w.heap.size ≤ g; omega) _).setCell (by show w.heap.size ≤ g; omega) _).setCell (by show w.heap.size ≤ g; omega) _).setCell (by show w.heap.size ≤ g; omega) _) (Nat.le_refl _) _ _ _).drew

theorem LocksR.nameSize {w : World} {B : Nat} {v : Value} {ls : List LockD} (h : LocksR w B v ls) {k : Nat} {x : LockD} (hx : ls[k]? = some x) : x.name.size ≤ 140737488351232 := by
  obtain ⟨ao, cap, -, -, -, -, h4⟩ := h
  obtain ⟨b, off, -, -, hc⟩ := h4 (by have := (List.getElem?_eq_some_iff.1 hx).1; omega)
  obtain ⟨lv, -, -, -, -, -, hs⟩ := hc k x hx
  exact hs

theorem filter_all {xs : List Int} {who : Int} (h : hasB who xs = false) : xs.filter (· != who) = xs := by
  refine List.filter_eq_self.2 fun y hy => ?_
  obtain ⟨i, hi⟩ := List.getElem?_of_mem hy
  have : ¬ y = who := fun e => hasB_none h i (by rw [hi, e])
  simpa using this

theorem freedOf_ok (v : Value) (ls : List LockD) (nm : ByteArray) (who : Int) (w : World) (B : Nat) (hv : LocksR w B v ls) (hB : B ≤ w.heap.size) (hs : nm.size ≤ 140737488351232) (hr : refuseL ls nm who = 0) :
    Calls Try.prog 21 #[v, .string nm, .int .i64 who] w fun e w' => ∃ v', e = .returned (.tuple #[v', replyV (freeL ls nm who).2.1 (freeL ls nm who).2.2, .int .i64 0]) ∧ LocksR w' w'.heap.size v' (freeL ls nm who).1 ∧ Below w.heap.size w w' := by
  obtain ⟨hck, hnm, hw1, hw2⟩ := refuse_zero hr
  by_cases hat : atL ls nm < ls.length
  · obtain ⟨x, hx, hxe⟩ := atL_found hat
    obtain ⟨hx5, hxc⟩ := check_each hck
    obtain ⟨hxf, hx1, hx2⟩ := hxc _ x hx
    obtain ⟨hx3, -⟩ := form_line hxf
    have hxm : ∀ (j : Nat) (y : LockD), j < atL ls nm → ls[j]? = some y → eqN y.name nm = false := fun j y hj hy => atL_min j y hj hy
    have hxn := LocksR.nameSize hv hx
    rw [freeL_found hat hx]
    obtain ⟨xn, xh, xf, xl⟩ := x
    simp only at hxe hx1 hx2 hx3 hxn
    by_cases hw : xh = who
    · rw [leaveX_holder hw]
      obtain ⟨⟨yn, yh, yf, yl⟩, hy⟩ : ∃ y, giveUpX ⟨xn, xh, xf, xl⟩ = y := ⟨_, rfl⟩
      rw [hy]
      have hq : hasX ⟨xn, xh, xf, xl⟩ who = true := by simp [hasX, hw]
      rw [if_pos hq]
      exact freedOf_passed v ls nm who w B _ xn xh xf xl hv hB hs hr hx hxe hxm hx1 hx2 hx3 hw hxn yn yh yf yl hy
    · have e : leaveX ⟨xn, xh, xf, xl⟩ who = ⟨xn, xh, xf, xl.filter (· != who)⟩ := by simp [leaveX, hw]
      rw [e]
      cases hh : hasB who xl with
      | true =>
        rw [if_pos (by simp [hasX, hh])]
        exact freedOf_lined v ls nm who w B _ xn xh xf xl hv hB hs hr hx hxe hxm hx1 hx2 hx3 hw hh
      | false =>
        rw [if_neg (by simp [hasX, hh, hw]), filter_all hh]
        exact freedOf_held v ls nm who w B _ xn xh xf xl hv hB hs hr hx hxe hxm hx1 hx2 hx3 hw hh
  · exact freedOf_none v ls nm who w B hv hB hs hr hck hat
end Go.Proofs.Ytkmkocbpclkhhab
