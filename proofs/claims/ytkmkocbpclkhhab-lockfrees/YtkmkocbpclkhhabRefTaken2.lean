/- The document's TakenOf at a lock that is there. -/
import Derived.Test.YtkmkocbpclkhhabRefTaken
namespace Go.Proofs.Ytkmkocbpclkhhab
open Go.RowKit
set_option linter.unusedVariables false

theorem set_self {α : Type} {l : List α} {i : Nat} {x : α} (h : l[i]? = some x) : l.set i x = l := by
  obtain ⟨hi, he⟩ := List.getElem?_eq_some_iff.1 h
  rw [← he]
  exact List.set_getElem_self hi

theorem LocksR.drew {w : World} {v : Value} {ls : List LockD} (h : LocksR w w.heap.size v ls) : LocksR w.drew w.drew.heap.size v ls := h.below ((Below.refl w.heap.size w).drew) (Nat.le_refl _)

set_option maxRecDepth 100000 in
set_option maxHeartbeats 1600000 in
theorem takenOf_full (v : Value) (ls : List LockD) (nm : ByteArray) (who : Int) (wait : Bool) (w : World) (B i : Nat) (xn : ByteArray) (xh xf : Int) (xl : List Int) (hv : LocksR w B v ls) (hB : B ≤ w.heap.size) (hs : nm.size ≤ 140737488351232) (hr : refuseL ls nm who = 0) (hx : ls[i]? = some ⟨xn, xh, xf, xl⟩) (hxe : eqN xn nm = true) (hxm : ∀ (j : Nat) (y : LockD), j < i → ls[j]? = some y → eqN y.name nm = false) (hf1 : 1 ≤ xf) (hf2 : xf ≤ 1073741824) (hl3 : xl.length ≤ 3) (h0 : xh = 0) (hm : xf = 1073741824) :
    Calls Try.prog 19 #[v, .string nm, .int .i64 who, .bool wait] w fun e w' => ∃ v', e = .returned (.tuple #[v', replyV 8 0, .int .i64 0]) ∧ LocksR w' w'.heap.size v' (ls.set i ⟨xn, xh, xf, xl⟩) ∧ Below w.heap.size w w' := by
  subst h0
  subst hm
  have hb0 : Below w.heap.size w (w.alloc (.cells #[.int .i64 0, .int .i64 0, .string ⟨#[]⟩] 34)) := (Below.refl _ _).alloc (Nat.le_refl _) _
  have hv0 := hv.below hb0 hB
  have CR := asked_any v ls nm who _ B hv0 (by simp; omega) hs
  rw [hr] at CR
  have HV0 := Hid.mk' hv0
  have HX := Hid.mk' hx
  have HXS := Hid.mk' hx
  have HM := Hid.mk' hxm
  have hll := hv.len
  have hil : i < ls.length := (List.getElem?_eq_some_iff.1 hx).1
  obtain ⟨ao, cap, rfl, -⟩ := hv
  clear hr hx hxm hv0
  go_enter Try.func19, Try.ntmps19
  go_wp2_with fail
  refine CR.mono ?_
  rintro e w1 ⟨rfl, hb1⟩
  have HR1 := Hid.mk' (ReplyAt.below (heap_alloc_new w _) hb1 (by simp))
  have hv1 := HV0.out.below hb1 (by simp; omega)
  have HB1 := Hid.mk' (hb0.trans (hb1.mono (by simp)))
  have hz1 : B ≤ w1.heap.size := by have := HB1.out.size; omega
  clear hb1 hb0 CR HV0
  go_wp2_with fail
  refine (locksCopy_any _ ls w1 B hv1 hz1).mono ?_
  rintro e w2 ⟨v2, rs, rfl, hrs, hown2, hb2⟩
  have HR2 := Hid.mk' (HR1.out.below hb2 HR1.out.lt)
  have HB2 := Hid.mk' (HB1.out.trans (hb2.mono HB1.out.size))
  have hrd := hown2.reads (Nat.le_refl _)
  rw [hrs] at hrd
  have CA := lockAt_found v2 ls nm i _ w2 _ hrd HX.out hxe HM.out
  have hrl : rs.length = ls.length := by rw [← hrs, List.length_map]
  obtain ⟨g, oc, e2, hg1, hg2⟩ := hown2.row.form (by omega)
  rw [hrl] at e2
  subst e2
  obtain ⟨r, hr, hrx⟩ : ∃ r, rs[i]? = some r ∧ r.1 = ⟨xn, 0, 1073741824, xl⟩ := by
    have := HX.out
    rw [← hrs, List.getElem?_map] at this
    exact Option.map_eq_some_iff.1 this
  obtain ⟨p, s, hps, hpl⟩ := split_at hr
  obtain ⟨rx, lv⟩ := r
  simp only at hrx
  subst hrx
  subst hps
  subst hpl
  have c1 := hown2.cellAt 1 (by omega)
  have c2 := hown2.cellAt 2 (by omega)
  have c3 := hown2.cellAt 3 (by omega)
  simp only [lockCells, List.getElem?_cons_zero, List.getElem?_cons_succ] at c1 c2 c3
  have hfz := hown2.frozenAt
  have hline := hown2.line
  simp only at hline
  obtain ⟨r0, r1, r2, rf⟩ := HR2.out.cells
  have hRw : w.heap.size < w1.heap.size := HR1.out.lt
  have hRg : w.heap.size ≠ g := by omega
  have hgR : g ≠ w.heap.size := by omega
  have hR2 : w.heap.size < w2.heap.size := HR2.out.lt
  have hR2n : w.heap.size ≠ w2.heap.size := by omega
  have hR2m : w2.heap.size ≠ w.heap.size := by omega
  have hg2n : g ≠ w2.heap.size := by omega
  have hg2m : w2.heap.size ≠ g := by omega
  have HO2 := Hid.mk' hown2
  have HRS := Hid.mk' hrs
  have HLN := Hid.mk' hline
  obtain ⟨lo, lc, rfl⟩ := ownsRow_shape hline.1
  clear hb2 hown2 hrs hv1 hrd hrl hr hline HX
  go_wp2_with fail
  refine CA.mono ?_
  rintro e w3 ⟨rfl, rfl⟩
  clear CA HM
  go_wp2
  refine bodyPost_ret (v := .tuple #[.slice (some ⟨g, 0, none⟩) ls.length oc, replyV (8) (0), .int .i64 0]) (by simp [results, Try.results19, go_sem, replyV, r0, r1, r2]) rfl ⟨_, rfl, ?_, ?_⟩
  · have K := HO2.out.readsLow hRw (.int .i64 8) (.int .i64 0) (.string ⟨#[]⟩) rfl
    rw [HRS.out] at K
    rwa [set_self HXS.out]
  · exact below3 HB2.out (Nat.le_refl _) _ _ _

set_option maxRecDepth 100000 in
set_option maxHeartbeats 1600000 in
theorem takenOf_free (v : Value) (ls : List LockD) (nm : ByteArray) (who : Int) (wait : Bool) (w : World) (B i : Nat) (xn : ByteArray) (xh xf : Int) (xl : List Int) (hv : LocksR w B v ls) (hB : B ≤ w.heap.size) (hs : nm.size ≤ 140737488351232) (hr : refuseL ls nm who = 0) (hx : ls[i]? = some ⟨xn, xh, xf, xl⟩) (hxe : eqN xn nm = true) (hxm : ∀ (j : Nat) (y : LockD), j < i → ls[j]? = some y → eqN y.name nm = false) (hf1 : 1 ≤ xf) (hf2 : xf ≤ 1073741824) (hl3 : xl.length ≤ 3) (h0 : xh = 0) (hm : ¬ xf = 1073741824) :
    Calls Try.prog 19 #[v, .string nm, .int .i64 who, .bool wait] w fun e w' => ∃ v', e = .returned (.tuple #[v', replyV 0 (xf + 1), .int .i64 0]) ∧ LocksR w' w'.heap.size v' (ls.set i ⟨xn, who, xf + 1, xl⟩) ∧ Below w.heap.size w w' := by
  subst h0
  have hmb : ¬ (1073741824 ≤ xf) := by omega
  have hb0 : Below w.heap.size w (w.alloc (.cells #[.int .i64 0, .int .i64 0, .string ⟨#[]⟩] 34)) := (Below.refl _ _).alloc (Nat.le_refl _) _
  have hv0 := hv.below hb0 hB
  have CR := asked_any v ls nm who _ B hv0 (by simp; omega) hs
  rw [hr] at CR
  have HV0 := Hid.mk' hv0
  have HX := Hid.mk' hx
  have HXS := Hid.mk' hx
  have HM := Hid.mk' hxm
  have hll := hv.len
  have hil : i < ls.length := (List.getElem?_eq_some_iff.1 hx).1
  obtain ⟨ao, cap, rfl, -⟩ := hv
  clear hr hx hxm hv0
  go_enter Try.func19, Try.ntmps19
  go_wp2_with fail
  refine CR.mono ?_
  rintro e w1 ⟨rfl, hb1⟩
  have HR1 := Hid.mk' (ReplyAt.below (heap_alloc_new w _) hb1 (by simp))
  have hv1 := HV0.out.below hb1 (by simp; omega)
  have HB1 := Hid.mk' (hb0.trans (hb1.mono (by simp)))
  have hz1 : B ≤ w1.heap.size := by have := HB1.out.size; omega
  clear hb1 hb0 CR HV0
  go_wp2_with fail
  refine (locksCopy_any _ ls w1 B hv1 hz1).mono ?_
  rintro e w2 ⟨v2, rs, rfl, hrs, hown2, hb2⟩
  have HR2 := Hid.mk' (HR1.out.below hb2 HR1.out.lt)
  have HB2 := Hid.mk' (HB1.out.trans (hb2.mono HB1.out.size))
  have hrd := hown2.reads (Nat.le_refl _)
  rw [hrs] at hrd
  have CA := lockAt_found v2 ls nm i _ w2 _ hrd HX.out hxe HM.out
  have hrl : rs.length = ls.length := by rw [← hrs, List.length_map]
  obtain ⟨g, oc, e2, hg1, hg2⟩ := hown2.row.form (by omega)
  rw [hrl] at e2
  subst e2
  obtain ⟨r, hr, hrx⟩ : ∃ r, rs[i]? = some r ∧ r.1 = ⟨xn, 0, xf, xl⟩ := by
    have := HX.out
    rw [← hrs, List.getElem?_map] at this
    exact Option.map_eq_some_iff.1 this
  obtain ⟨p, s, hps, hpl⟩ := split_at hr
  obtain ⟨rx, lv⟩ := r
  simp only at hrx
  subst hrx
  subst hps
  subst hpl
  have c1 := hown2.cellAt 1 (by omega)
  have c2 := hown2.cellAt 2 (by omega)
  have c3 := hown2.cellAt 3 (by omega)
  simp only [lockCells, List.getElem?_cons_zero, List.getElem?_cons_succ] at c1 c2 c3
  have hfz := hown2.frozenAt
  have hline := hown2.line
  simp only at hline
  obtain ⟨r0, r1, r2, rf⟩ := HR2.out.cells
  have hRw : w.heap.size < w1.heap.size := HR1.out.lt
  have hRg : w.heap.size ≠ g := by omega
  have hgR : g ≠ w.heap.size := by omega
  have hR2 : w.heap.size < w2.heap.size := HR2.out.lt
  have hR2n : w.heap.size ≠ w2.heap.size := by omega
  have hR2m : w2.heap.size ≠ w.heap.size := by omega
  have hg2n : g ≠ w2.heap.size := by omega
  have hg2m : w2.heap.size ≠ g := by omega
  have HO2 := Hid.mk' hown2
  have HRS := Hid.mk' hrs
  have HLN := Hid.mk' hline
  obtain ⟨lo, lc, rfl⟩ := ownsRow_shape hline.1
  clear hb2 hown2 hrs hv1 hrd hrl hr hline HX
  go_wp2_with fail
  refine CA.mono ?_
  rintro e w3 ⟨rfl, rfl⟩
  clear CA HM
  have HO3 := Hid.mk' ((HO2.out.setHolder who).setFence (xf + 1))
  go_wp2_with fail
  go_region
  go_wp2
  refine bodyPost_ret (v := .tuple #[.slice (some ⟨g, 0, none⟩) ls.length oc, replyV (0) (xf + 1), .int .i64 0]) (by simp [results, Try.results19, go_sem, replyV, r0, r1, r2]) rfl ⟨_, rfl, ?_, ?_⟩
  · have K := HO3.out.readsLow hRw (.int .i64 0) (.int .i64 (xf + 1)) (.string ⟨#[]⟩) rfl
    rw [map_mid p s (⟨xn, 0, xf, xl⟩, .slice lo xl.length lc), HRS.out] at K
    exact K.drew
  · exact (below3 ((HB2.out.setCell (by show w.heap.size ≤ g; omega) _).setCell (by show w.heap.size ≤ g; omega) _) (Nat.le_refl _) _ _ _).drew

set_option maxRecDepth 100000 in
set_option maxHeartbeats 1600000 in
theorem takenOf_own (v : Value) (ls : List LockD) (nm : ByteArray) (who : Int) (wait : Bool) (w : World) (B i : Nat) (xn : ByteArray) (xh xf : Int) (xl : List Int) (hv : LocksR w B v ls) (hB : B ≤ w.heap.size) (hs : nm.size ≤ 140737488351232) (hr : refuseL ls nm who = 0) (hx : ls[i]? = some ⟨xn, xh, xf, xl⟩) (hxe : eqN xn nm = true) (hxm : ∀ (j : Nat) (y : LockD), j < i → ls[j]? = some y → eqN y.name nm = false) (hf1 : 1 ≤ xf) (hf2 : xf ≤ 1073741824) (hl3 : xl.length ≤ 3) (h0 : ¬ xh = 0) (hw : xh = who) :
    Calls Try.prog 19 #[v, .string nm, .int .i64 who, .bool wait] w fun e w' => ∃ v', e = .returned (.tuple #[v', replyV 0 xf, .int .i64 0]) ∧ LocksR w' w'.heap.size v' (ls.set i ⟨xn, xh, xf, xl⟩) ∧ Below w.heap.size w w' := by
  subst hw
  have hb0 : Below w.heap.size w (w.alloc (.cells #[.int .i64 0, .int .i64 0, .string ⟨#[]⟩] 34)) := (Below.refl _ _).alloc (Nat.le_refl _) _
  have hv0 := hv.below hb0 hB
  have CR := asked_any v ls nm xh _ B hv0 (by simp; omega) hs
  rw [hr] at CR
  have HV0 := Hid.mk' hv0
  have HX := Hid.mk' hx
  have HXS := Hid.mk' hx
  have HM := Hid.mk' hxm
  have hll := hv.len
  have hil : i < ls.length := (List.getElem?_eq_some_iff.1 hx).1
  obtain ⟨ao, cap, rfl, -⟩ := hv
  clear hr hx hxm hv0
  go_enter Try.func19, Try.ntmps19
  go_wp2_with fail
  refine CR.mono ?_
  rintro e w1 ⟨rfl, hb1⟩
  have HR1 := Hid.mk' (ReplyAt.below (heap_alloc_new w _) hb1 (by simp))
  have hv1 := HV0.out.below hb1 (by simp; omega)
  have HB1 := Hid.mk' (hb0.trans (hb1.mono (by simp)))
  have hz1 : B ≤ w1.heap.size := by have := HB1.out.size; omega
  clear hb1 hb0 CR HV0
  go_wp2_with fail
  refine (locksCopy_any _ ls w1 B hv1 hz1).mono ?_
  rintro e w2 ⟨v2, rs, rfl, hrs, hown2, hb2⟩
  have HR2 := Hid.mk' (HR1.out.below hb2 HR1.out.lt)
  have HB2 := Hid.mk' (HB1.out.trans (hb2.mono HB1.out.size))
  have hrd := hown2.reads (Nat.le_refl _)
  rw [hrs] at hrd
  have CA := lockAt_found v2 ls nm i _ w2 _ hrd HX.out hxe HM.out
  have hrl : rs.length = ls.length := by rw [← hrs, List.length_map]
  obtain ⟨g, oc, e2, hg1, hg2⟩ := hown2.row.form (by omega)
  rw [hrl] at e2
  subst e2
  obtain ⟨r, hr, hrx⟩ : ∃ r, rs[i]? = some r ∧ r.1 = ⟨xn, xh, xf, xl⟩ := by
    have := HX.out
    rw [← hrs, List.getElem?_map] at this
    exact Option.map_eq_some_iff.1 this
  obtain ⟨p, s, hps, hpl⟩ := split_at hr
  obtain ⟨rx, lv⟩ := r
  simp only at hrx
  subst hrx
  subst hps
  subst hpl
  have c1 := hown2.cellAt 1 (by omega)
  have c2 := hown2.cellAt 2 (by omega)
  have c3 := hown2.cellAt 3 (by omega)
  simp only [lockCells, List.getElem?_cons_zero, List.getElem?_cons_succ] at c1 c2 c3
  have hfz := hown2.frozenAt
  have hline := hown2.line
  simp only at hline
  obtain ⟨r0, r1, r2, rf⟩ := HR2.out.cells
  have hRw : w.heap.size < w1.heap.size := HR1.out.lt
  have hRg : w.heap.size ≠ g := by omega
  have hgR : g ≠ w.heap.size := by omega
  have hR2 : w.heap.size < w2.heap.size := HR2.out.lt
  have hR2n : w.heap.size ≠ w2.heap.size := by omega
  have hR2m : w2.heap.size ≠ w.heap.size := by omega
  have hg2n : g ≠ w2.heap.size := by omega
  have hg2m : w2.heap.size ≠ g := by omega
  have HO2 := Hid.mk' hown2
  have HRS := Hid.mk' hrs
  have HLN := Hid.mk' hline
  obtain ⟨lo, lc, rfl⟩ := ownsRow_shape hline.1
  clear hb2 hown2 hrs hv1 hrd hrl hr hline HX
  go_wp2_with fail
  refine CA.mono ?_
  rintro e w3 ⟨rfl, rfl⟩
  clear CA HM
  go_wp2_with fail
  go_region
  go_wp2
  refine bodyPost_ret (v := .tuple #[.slice (some ⟨g, 0, none⟩) ls.length oc, replyV (0) (xf), .int .i64 0]) (by simp [results, Try.results19, go_sem, replyV, r0, r1, r2]) rfl ⟨_, rfl, ?_, ?_⟩
  · have K := HO2.out.readsLow hRw (.int .i64 0) (.int .i64 xf) (.string ⟨#[]⟩) rfl
    rw [HRS.out] at K
    rw [set_self HXS.out]
    exact K.drew
  · exact (below3 HB2.out (Nat.le_refl _) _ _ _).drew

set_option maxRecDepth 100000 in
set_option maxHeartbeats 1600000 in
theorem takenOf_held (v : Value) (ls : List LockD) (nm : ByteArray) (who : Int) (wait : Bool) (w : World) (B i : Nat) (xn : ByteArray) (xh xf : Int) (xl : List Int) (hv : LocksR w B v ls) (hB : B ≤ w.heap.size) (hs : nm.size ≤ 140737488351232) (hr : refuseL ls nm who = 0) (hx : ls[i]? = some ⟨xn, xh, xf, xl⟩) (hxe : eqN xn nm = true) (hxm : ∀ (j : Nat) (y : LockD), j < i → ls[j]? = some y → eqN y.name nm = false) (hf1 : 1 ≤ xf) (hf2 : xf ≤ 1073741824) (hl3 : xl.length ≤ 3) (h0 : ¬ xh = 0) (hw : ¬ xh = who) (hwait : wait = false) :
    Calls Try.prog 19 #[v, .string nm, .int .i64 who, .bool wait] w fun e w' => ∃ v', e = .returned (.tuple #[v', replyV 10 xh, .int .i64 0]) ∧ LocksR w' w'.heap.size v' (ls.set i ⟨xn, xh, xf, xl⟩) ∧ Below w.heap.size w w' := by
  subst hwait
  have hb0 : Below w.heap.size w (w.alloc (.cells #[.int .i64 0, .int .i64 0, .string ⟨#[]⟩] 34)) := (Below.refl _ _).alloc (Nat.le_refl _) _
  have hv0 := hv.below hb0 hB
  have CR := asked_any v ls nm who _ B hv0 (by simp; omega) hs
  rw [hr] at CR
  have HV0 := Hid.mk' hv0
  have HX := Hid.mk' hx
  have HXS := Hid.mk' hx
  have HM := Hid.mk' hxm
  have hll := hv.len
  have hil : i < ls.length := (List.getElem?_eq_some_iff.1 hx).1
  obtain ⟨ao, cap, rfl, -⟩ := hv
  clear hr hx hxm hv0
  go_enter Try.func19, Try.ntmps19
  go_wp2_with fail
  refine CR.mono ?_
  rintro e w1 ⟨rfl, hb1⟩
  have HR1 := Hid.mk' (ReplyAt.below (heap_alloc_new w _) hb1 (by simp))
  have hv1 := HV0.out.below hb1 (by simp; omega)
  have HB1 := Hid.mk' (hb0.trans (hb1.mono (by simp)))
  have hz1 : B ≤ w1.heap.size := by have := HB1.out.size; omega
  clear hb1 hb0 CR HV0
  go_wp2_with fail
  refine (locksCopy_any _ ls w1 B hv1 hz1).mono ?_
  rintro e w2 ⟨v2, rs, rfl, hrs, hown2, hb2⟩
  have HR2 := Hid.mk' (HR1.out.below hb2 HR1.out.lt)
  have HB2 := Hid.mk' (HB1.out.trans (hb2.mono HB1.out.size))
  have hrd := hown2.reads (Nat.le_refl _)
  rw [hrs] at hrd
  have CA := lockAt_found v2 ls nm i _ w2 _ hrd HX.out hxe HM.out
  have hrl : rs.length = ls.length := by rw [← hrs, List.length_map]
  obtain ⟨g, oc, e2, hg1, hg2⟩ := hown2.row.form (by omega)
  rw [hrl] at e2
  subst e2
  obtain ⟨r, hr, hrx⟩ : ∃ r, rs[i]? = some r ∧ r.1 = ⟨xn, xh, xf, xl⟩ := by
    have := HX.out
    rw [← hrs, List.getElem?_map] at this
    exact Option.map_eq_some_iff.1 this
  obtain ⟨p, s, hps, hpl⟩ := split_at hr
  obtain ⟨rx, lv⟩ := r
  simp only at hrx
  subst hrx
  subst hps
  subst hpl
  have c1 := hown2.cellAt 1 (by omega)
  have c2 := hown2.cellAt 2 (by omega)
  have c3 := hown2.cellAt 3 (by omega)
  simp only [lockCells, List.getElem?_cons_zero, List.getElem?_cons_succ] at c1 c2 c3
  have hfz := hown2.frozenAt
  have hline := hown2.line
  simp only at hline
  obtain ⟨r0, r1, r2, rf⟩ := HR2.out.cells
  have hRw : w.heap.size < w1.heap.size := HR1.out.lt
  have hRg : w.heap.size ≠ g := by omega
  have hgR : g ≠ w.heap.size := by omega
  have hR2 : w.heap.size < w2.heap.size := HR2.out.lt
  have hR2n : w.heap.size ≠ w2.heap.size := by omega
  have hR2m : w2.heap.size ≠ w.heap.size := by omega
  have hg2n : g ≠ w2.heap.size := by omega
  have hg2m : w2.heap.size ≠ g := by omega
  have HO2 := Hid.mk' hown2
  have HRS := Hid.mk' hrs
  have HLN := Hid.mk' hline
  obtain ⟨lo, lc, rfl⟩ := ownsRow_shape hline.1
  clear hb2 hown2 hrs hv1 hrd hrl hr hline HX
  go_wp2_with fail
  refine CA.mono ?_
  rintro e w3 ⟨rfl, rfl⟩
  clear CA HM
  go_wp2_with fail
  go_region
  go_wp2
  refine bodyPost_ret (v := .tuple #[.slice (some ⟨g, 0, none⟩) ls.length oc, replyV (10) (xh), .int .i64 0]) (by simp [results, Try.results19, go_sem, replyV, r0, r1, r2, hR2]) rfl ⟨_, rfl, ?_, ?_⟩
  · have K := HO2.out.readsLow hRw (.int .i64 10) (.int .i64 xh) (.string ⟨#[]⟩) rfl
    rw [HRS.out] at K
    rw [set_self HXS.out]
    exact (K.below (((Below.refl _ _).alloc (Nat.le_refl _) (.cells #[.int .i64 10, .int .i64 xh, .string ⟨#[]⟩] 34)).drew) (Nat.le_refl _)).mono (by simp)
  · exact ((below3 HB2.out (Nat.le_refl _) _ _ _).alloc (by have := HB2.out.size; simpa [World.setCell] using this) _).drew

set_option maxRecDepth 100000 in
set_option maxHeartbeats 1600000 in
theorem takenOf_stands (v : Value) (ls : List LockD) (nm : ByteArray) (who : Int) (wait : Bool) (w : World) (B i : Nat) (xn : ByteArray) (xh xf : Int) (xl : List Int) (hv : LocksR w B v ls) (hB : B ≤ w.heap.size) (hs : nm.size ≤ 140737488351232) (hr : refuseL ls nm who = 0) (hx : ls[i]? = some ⟨xn, xh, xf, xl⟩) (hxe : eqN xn nm = true) (hxm : ∀ (j : Nat) (y : LockD), j < i → ls[j]? = some y → eqN y.name nm = false) (hf1 : 1 ≤ xf) (hf2 : xf ≤ 1073741824) (hl3 : xl.length ≤ 3) (h0 : ¬ xh = 0) (hw : ¬ xh = who) (hwait : wait = true) (hh : hasB who xl = true) :
    Calls Try.prog 19 #[v, .string nm, .int .i64 who, .bool wait] w fun e w' => ∃ v', e = .returned (.tuple #[v', replyV 10 xh, .int .i64 0]) ∧ LocksR w' w'.heap.size v' (ls.set i ⟨xn, xh, xf, xl⟩) ∧ Below w.heap.size w w' := by
  subst hwait
  have hb0 : Below w.heap.size w (w.alloc (.cells #[.int .i64 0, .int .i64 0, .string ⟨#[]⟩] 34)) := (Below.refl _ _).alloc (Nat.le_refl _) _
  have hv0 := hv.below hb0 hB
  have CR := asked_any v ls nm who _ B hv0 (by simp; omega) hs
  rw [hr] at CR
  have HV0 := Hid.mk' hv0
  have HX := Hid.mk' hx
  have HXS := Hid.mk' hx
  have HM := Hid.mk' hxm
  have hll := hv.len
  have hil : i < ls.length := (List.getElem?_eq_some_iff.1 hx).1
  obtain ⟨ao, cap, rfl, -⟩ := hv
  clear hr hx hxm hv0
  go_enter Try.func19, Try.ntmps19
  go_wp2_with fail
  refine CR.mono ?_
  rintro e w1 ⟨rfl, hb1⟩
  have HR1 := Hid.mk' (ReplyAt.below (heap_alloc_new w _) hb1 (by simp))
  have hv1 := HV0.out.below hb1 (by simp; omega)
  have HB1 := Hid.mk' (hb0.trans (hb1.mono (by simp)))
  have hz1 : B ≤ w1.heap.size := by have := HB1.out.size; omega
  clear hb1 hb0 CR HV0
  go_wp2_with fail
  refine (locksCopy_any _ ls w1 B hv1 hz1).mono ?_
  rintro e w2 ⟨v2, rs, rfl, hrs, hown2, hb2⟩
  have HR2 := Hid.mk' (HR1.out.below hb2 HR1.out.lt)
  have HB2 := Hid.mk' (HB1.out.trans (hb2.mono HB1.out.size))
  have hrd := hown2.reads (Nat.le_refl _)
  rw [hrs] at hrd
  have CA := lockAt_found v2 ls nm i _ w2 _ hrd HX.out hxe HM.out
  have hrl : rs.length = ls.length := by rw [← hrs, List.length_map]
  obtain ⟨g, oc, e2, hg1, hg2⟩ := hown2.row.form (by omega)
  rw [hrl] at e2
  subst e2
  obtain ⟨r, hr, hrx⟩ : ∃ r, rs[i]? = some r ∧ r.1 = ⟨xn, xh, xf, xl⟩ := by
    have := HX.out
    rw [← hrs, List.getElem?_map] at this
    exact Option.map_eq_some_iff.1 this
  obtain ⟨p, s, hps, hpl⟩ := split_at hr
  obtain ⟨rx, lv⟩ := r
  simp only at hrx
  subst hrx
  subst hps
  subst hpl
  have c1 := hown2.cellAt 1 (by omega)
  have c2 := hown2.cellAt 2 (by omega)
  have c3 := hown2.cellAt 3 (by omega)
  simp only [lockCells, List.getElem?_cons_zero, List.getElem?_cons_succ] at c1 c2 c3
  have hfz := hown2.frozenAt
  have hline := hown2.line
  simp only at hline
  obtain ⟨r0, r1, r2, rf⟩ := HR2.out.cells
  have hRw : w.heap.size < w1.heap.size := HR1.out.lt
  have hRg : w.heap.size ≠ g := by omega
  have hgR : g ≠ w.heap.size := by omega
  have hR2 : w.heap.size < w2.heap.size := HR2.out.lt
  have hR2n : w.heap.size ≠ w2.heap.size := by omega
  have hR2m : w2.heap.size ≠ w.heap.size := by omega
  have hg2n : g ≠ w2.heap.size := by omega
  have hg2m : w2.heap.size ≠ g := by omega
  have HO2 := Hid.mk' hown2
  have HRS := Hid.mk' hrs
  have HLN := Hid.mk' hline
  obtain ⟨lo, lc, rfl⟩ := ownsRow_shape hline.1
  clear hb2 hown2 hrs hv1 hrd hrl hr hline HX
  go_wp2_with fail
  refine CA.mono ?_
  rintro e w3 ⟨rfl, rfl⟩
  clear CA HM
  have CH := fun w' (hb : Below w3.heap.size w3 w') => has_any (.slice lo xl.length lc) xl who w' w3.heap.size ((ownsRow_ints HLN.out.1 HLN.out.2.1 (Nat.le_refl _)).below hb (Nat.le_refl _))
  rw [hh] at CH
  have HCH := Hid.mk' CH
  clear CH
  go_wp2_with fail
  refine (HCH.out _ ((Below.refl _ _).alloc (Nat.le_refl _) _)).mono ?_
  rintro e w4 ⟨rfl, rfl⟩
  go_wp2_with fail
  go_region
  go_wp2
  refine bodyPost_ret (v := .tuple #[.slice (some ⟨g, 0, none⟩) ls.length oc, replyV (10) (xh), .int .i64 0]) (by simp [results, Try.results19, go_sem, replyV, r0, r1, r2, hR2]) rfl ⟨_, rfl, ?_, ?_⟩
  · have K := HO2.out.readsLow hRw (.int .i64 10) (.int .i64 xh) (.string ⟨#[]⟩) rfl
    rw [HRS.out] at K
    rw [set_self HXS.out]
    exact (K.below (((Below.refl _ _).alloc (Nat.le_refl _) (.cells #[.int .i64 10, .int .i64 xh, .string ⟨#[]⟩] 34)).drew) (Nat.le_refl _)).mono (by simp)
  · exact ((below3 HB2.out (Nat.le_refl _) _ _ _).alloc (by have := HB2.out.size; simpa [World.setCell] using this) _).drew

set_option maxRecDepth 100000 in
set_option maxHeartbeats 1600000 in
theorem takenOf_noroom (v : Value) (ls : List LockD) (nm : ByteArray) (who : Int) (wait : Bool) (w : World) (B i : Nat) (xn : ByteArray) (xh xf : Int) (xl : List Int) (hv : LocksR w B v ls) (hB : B ≤ w.heap.size) (hs : nm.size ≤ 140737488351232) (hr : refuseL ls nm who = 0) (hx : ls[i]? = some ⟨xn, xh, xf, xl⟩) (hxe : eqN xn nm = true) (hxm : ∀ (j : Nat) (y : LockD), j < i → ls[j]? = some y → eqN y.name nm = false) (hf1 : 1 ≤ xf) (hf2 : xf ≤ 1073741824) (hl3 : xl.length ≤ 3) (h0 : ¬ xh = 0) (hw : ¬ xh = who) (hwait : wait = true) (hh : hasB who xl = false) (hl : xl.length = 3) :
    Calls Try.prog 19 #[v, .string nm, .int .i64 who, .bool wait] w fun e w' => ∃ v', e = .returned (.tuple #[v', replyV 8 0, .int .i64 0]) ∧ LocksR w' w'.heap.size v' (ls.set i ⟨xn, xh, xf, xl⟩) ∧ Below w.heap.size w w' := by
  subst hwait
  have HLL := Hid.mk' hl
  have hlb : (3 : Int) ≤ (xl.length : Int) := by omega
  clear hl
  have hb0 : Below w.heap.size w (w.alloc (.cells #[.int .i64 0, .int .i64 0, .string ⟨#[]⟩] 34)) := (Below.refl _ _).alloc (Nat.le_refl _) _
  have hv0 := hv.below hb0 hB
  have CR := asked_any v ls nm who _ B hv0 (by simp; omega) hs
  rw [hr] at CR
  have HV0 := Hid.mk' hv0
  have HX := Hid.mk' hx
  have HXS := Hid.mk' hx
  have HM := Hid.mk' hxm
  have hll := hv.len
  have hil : i < ls.length := (List.getElem?_eq_some_iff.1 hx).1
  obtain ⟨ao, cap, rfl, -⟩ := hv
  clear hr hx hxm hv0
  go_enter Try.func19, Try.ntmps19
  go_wp2_with fail
  refine CR.mono ?_
  rintro e w1 ⟨rfl, hb1⟩
  have HR1 := Hid.mk' (ReplyAt.below (heap_alloc_new w _) hb1 (by simp))
  have hv1 := HV0.out.below hb1 (by simp; omega)
  have HB1 := Hid.mk' (hb0.trans (hb1.mono (by simp)))
  have hz1 : B ≤ w1.heap.size := by have := HB1.out.size; omega
  clear hb1 hb0 CR HV0
  go_wp2_with fail
  refine (locksCopy_any _ ls w1 B hv1 hz1).mono ?_
  rintro e w2 ⟨v2, rs, rfl, hrs, hown2, hb2⟩
  have HR2 := Hid.mk' (HR1.out.below hb2 HR1.out.lt)
  have HB2 := Hid.mk' (HB1.out.trans (hb2.mono HB1.out.size))
  have hrd := hown2.reads (Nat.le_refl _)
  rw [hrs] at hrd
  have CA := lockAt_found v2 ls nm i _ w2 _ hrd HX.out hxe HM.out
  have hrl : rs.length = ls.length := by rw [← hrs, List.length_map]
  obtain ⟨g, oc, e2, hg1, hg2⟩ := hown2.row.form (by omega)
  rw [hrl] at e2
  subst e2
  obtain ⟨r, hr, hrx⟩ : ∃ r, rs[i]? = some r ∧ r.1 = ⟨xn, xh, xf, xl⟩ := by
    have := HX.out
    rw [← hrs, List.getElem?_map] at this
    exact Option.map_eq_some_iff.1 this
  obtain ⟨p, s, hps, hpl⟩ := split_at hr
  obtain ⟨rx, lv⟩ := r
  simp only at hrx
  subst hrx
  subst hps
  subst hpl
  have c1 := hown2.cellAt 1 (by omega)
  have c2 := hown2.cellAt 2 (by omega)
  have c3 := hown2.cellAt 3 (by omega)
  simp only [lockCells, List.getElem?_cons_zero, List.getElem?_cons_succ] at c1 c2 c3
  have hfz := hown2.frozenAt
  have hline := hown2.line
  simp only at hline
  obtain ⟨r0, r1, r2, rf⟩ := HR2.out.cells
  have hRw : w.heap.size < w1.heap.size := HR1.out.lt
  have hRg : w.heap.size ≠ g := by omega
  have hgR : g ≠ w.heap.size := by omega
  have hR2 : w.heap.size < w2.heap.size := HR2.out.lt
  have hR2n : w.heap.size ≠ w2.heap.size := by omega
  have hR2m : w2.heap.size ≠ w.heap.size := by omega
  have hg2n : g ≠ w2.heap.size := by omega
  have hg2m : w2.heap.size ≠ g := by omega
  have HO2 := Hid.mk' hown2
  have HRS := Hid.mk' hrs
  have HLN := Hid.mk' hline
  obtain ⟨lo, lc, rfl⟩ := ownsRow_shape hline.1
  clear hb2 hown2 hrs hv1 hrd hrl hr hline HX
  go_wp2_with fail
  refine CA.mono ?_
  rintro e w3 ⟨rfl, rfl⟩
  clear CA HM
  have CH := fun w' (hb : Below w3.heap.size w3 w') => has_any (.slice lo xl.length lc) xl who w' w3.heap.size ((ownsRow_ints HLN.out.1 HLN.out.2.1 (Nat.le_refl _)).below hb (Nat.le_refl _))
  rw [hh] at CH
  have HCH := Hid.mk' CH
  clear CH
  go_wp2_with fail
  refine (HCH.out _ ((Below.refl _ _).alloc (Nat.le_refl _) _)).mono ?_
  rintro e w4 ⟨rfl, rfl⟩
  go_wp2
  refine bodyPost_ret (v := .tuple #[.slice (some ⟨g, 0, none⟩) ls.length oc, replyV (8) (0), .int .i64 0]) (by simp [results, Try.results19, go_sem, replyV, r0, r1, r2, hR2]) rfl ⟨_, rfl, ?_, ?_⟩
  · have K := HO2.out.readsLow hRw (.int .i64 8) (.int .i64 0) (.string ⟨#[]⟩) rfl
    rw [HRS.out] at K
    rw [set_self HXS.out]
    exact (K.below ((Below.refl _ _).alloc (Nat.le_refl _) (.cells #[.int .i64 10, .int .i64 xh, .string ⟨#[]⟩] 34)) (Nat.le_refl _)).mono (by simp)
  · exact (below3 HB2.out (Nat.le_refl _) _ _ _).alloc (by have := HB2.out.size; simpa [World.setCell] using this) _

set_option maxRecDepth 100000 in
set_option maxHeartbeats 1600000 in
theorem takenOf_lined (v : Value) (ls : List LockD) (nm : ByteArray) (who : Int) (wait : Bool) (w : World) (B i : Nat) (xn : ByteArray) (xh xf : Int) (xl : List Int) (hv : LocksR w B v ls) (hB : B ≤ w.heap.size) (hs : nm.size ≤ 140737488351232) (hr : refuseL ls nm who = 0) (hx : ls[i]? = some ⟨xn, xh, xf, xl⟩) (hxe : eqN xn nm = true) (hxm : ∀ (j : Nat) (y : LockD), j < i → ls[j]? = some y → eqN y.name nm = false) (hf1 : 1 ≤ xf) (hf2 : xf ≤ 1073741824) (hl3 : xl.length ≤ 3) (h0 : ¬ xh = 0) (hw : ¬ xh = who) (hwait : wait = true) (hh : hasB who xl = false) (hl : xl.length < 3) :
    Calls Try.prog 19 #[v, .string nm, .int .i64 who, .bool wait] w fun e w' => ∃ v', e = .returned (.tuple #[v', replyV 10 xh, .int .i64 0]) ∧ LocksR w' w'.heap.size v' (ls.set i ⟨xn, xh, xf, xl ++ [who]⟩) ∧ Below w.heap.size w w' := by
  subst hwait
  obtain ⟨i0, hi, hz0, hz1', hz2'⟩ := info_parts Try.infoInt
  have hlb : ¬ (3 : Int) ≤ (xl.length : Int) := by omega
  have hb0 : Below w.heap.size w (w.alloc (.cells #[.int .i64 0, .int .i64 0, .string ⟨#[]⟩] 34)) := (Below.refl _ _).alloc (Nat.le_refl _) _
  have hv0 := hv.below hb0 hB
  have CR := asked_any v ls nm who _ B hv0 (by simp; omega) hs
  rw [hr] at CR
  have HV0 := Hid.mk' hv0
  have HX := Hid.mk' hx
  have HXS := Hid.mk' hx
  have HM := Hid.mk' hxm
  have hll := hv.len
  have hil : i < ls.length := (List.getElem?_eq_some_iff.1 hx).1
  obtain ⟨ao, cap, rfl, -⟩ := hv
  clear hr hx hxm hv0
  go_enter Try.func19, Try.ntmps19
  go_wp2_with fail
  refine CR.mono ?_
  rintro e w1 ⟨rfl, hb1⟩
  have HR1 := Hid.mk' (ReplyAt.below (heap_alloc_new w _) hb1 (by simp))
  have hv1 := HV0.out.below hb1 (by simp; omega)
  have HB1 := Hid.mk' (hb0.trans (hb1.mono (by simp)))
  have hz1 : B ≤ w1.heap.size := by have := HB1.out.size; omega
  clear hb1 hb0 CR HV0
  go_wp2_with fail
  refine (locksCopy_any _ ls w1 B hv1 hz1).mono ?_
  rintro e w2 ⟨v2, rs, rfl, hrs, hown2, hb2⟩
  have HR2 := Hid.mk' (HR1.out.below hb2 HR1.out.lt)
  have HB2 := Hid.mk' (HB1.out.trans (hb2.mono HB1.out.size))
  have hrd := hown2.reads (Nat.le_refl _)
  rw [hrs] at hrd
  have CA := lockAt_found v2 ls nm i _ w2 _ hrd HX.out hxe HM.out
  have hrl : rs.length = ls.length := by rw [← hrs, List.length_map]
  obtain ⟨g, oc, e2, hg1, hg2⟩ := hown2.row.form (by omega)
  rw [hrl] at e2
  subst e2
  obtain ⟨r, hr, hrx⟩ : ∃ r, rs[i]? = some r ∧ r.1 = ⟨xn, xh, xf, xl⟩ := by
    have := HX.out
    rw [← hrs, List.getElem?_map] at this
    exact Option.map_eq_some_iff.1 this
  obtain ⟨p, s, hps, hpl⟩ := split_at hr
  obtain ⟨rx, lv⟩ := r
  simp only at hrx
  subst hrx
  subst hps
  subst hpl
  have c1 := hown2.cellAt 1 (by omega)
  have c2 := hown2.cellAt 2 (by omega)
  have c3 := hown2.cellAt 3 (by omega)
  simp only [lockCells, List.getElem?_cons_zero, List.getElem?_cons_succ] at c1 c2 c3
  have hfz := hown2.frozenAt
  have hline := hown2.line
  simp only at hline
  obtain ⟨r0, r1, r2, rf⟩ := HR2.out.cells
  have hRw : w.heap.size < w1.heap.size := HR1.out.lt
  have hRg : w.heap.size ≠ g := by omega
  have hgR : g ≠ w.heap.size := by omega
  have hR2 : w.heap.size < w2.heap.size := HR2.out.lt
  have hR2n : w.heap.size ≠ w2.heap.size := by omega
  have hR2m : w2.heap.size ≠ w.heap.size := by omega
  have hg2n : g ≠ w2.heap.size := by omega
  have hg2m : w2.heap.size ≠ g := by omega
  have HO2 := Hid.mk' hown2
  have HRS := Hid.mk' hrs
  have HLN := Hid.mk' hline
  obtain ⟨lo, lc, rfl⟩ := ownsRow_shape hline.1
  clear hb2 hown2 hrs hv1 hrd hrl hr hline HX
  go_wp2_with fail
  refine CA.mono ?_
  rintro e w3 ⟨rfl, rfl⟩
  clear CA HM
  have CH := fun w' (hb : Below w3.heap.size w3 w') => has_any (.slice lo xl.length lc) xl who w' w3.heap.size ((ownsRow_ints HLN.out.1 HLN.out.2.1 (Nat.le_refl _)).below hb (Nat.le_refl _))
  rw [hh] at CH
  have HCH := Hid.mk' CH
  clear CH
  have HN : Hid (∀ j u, [Value.int .i64 who][j]? = some u → ((w3.alloc (.cells #[.int .i64 10, .int .i64 xh, .string ⟨#[]⟩] 34)).alloc (.cells #[.int .i64 who] 3)).cell? ((⟨w3.heap.size + 1, 0, none⟩ : Addr).add j) = some u) := by
    have := cell_one_new (w3.alloc (.cells #[.int .i64 10, .int .i64 xh, .string ⟨#[]⟩] 34)) (.int .i64 who) 3
    have e : (w3.alloc (.cells #[.int .i64 10, .int .i64 xh, .string ⟨#[]⟩] 34)).heap.size = w3.heap.size + 1 := by simp
    rw [e] at this
    exact this
  go_wp2_with fail
  refine (HCH.out _ ((Below.refl _ _).alloc (Nat.le_refl _) _)).mono ?_
  rintro e w4 ⟨rfl, rfl⟩
  go_wp2_with (at_builtin; refine wpList_append_lies _ rfl (.tmp 114) (.tmp 116) 45 rfl w1.heap.size 3 i0 (.int .i64 0) 1 8 Try.underlying45 hi hz0 hz1' hz2' rfl (by decide) _ _ _ rfl ((HLN.out.1.alloc _).alloc _) ⟨w3.heap.size + 1, 0, none⟩ 1 1 [.int .i64 who] rfl rfl HN.out (by intro u hu; simp at hu; subst hu; rfl) (by omega) (by unfold maxLen; omega) (by omega) (by simp; omega) _ rfl ?_)
  intro gn cn w5 hown hgrow hat hlt
  have hlo : ∀ b, (Value.slice lo xl.length lc).ownBlock = some b → w1.heap.size ≤ b ∧ b < w3.heap.size ∧ b ≠ g := fun b hb => ⟨(HLN.out.1.lt b hb).1, (HLN.out.1.lt b hb).2, HO2.out.lineNe hb⟩
  have hold : ∀ k, k < w3.heap.size → ((w3.alloc (.cells #[.int .i64 10, .int .i64 xh, .string ⟨#[]⟩] 34)).alloc (.cells #[.int .i64 who] 3)).heap[k]? = w3.heap[k]? := fun k hk => by
    rw [Below.heap_alloc _ _ _ (by simp; omega), Below.heap_alloc _ _ _ hk]
  have hg' : w3.grownBy w5 (Value.slice lo xl.length lc).ownBlock := ⟨hgrow.os, hgrow.tape, hgrow.output, by have := hgrow.size; simp at this; omega, fun k hk hne => (hgrow.block k (by simp; omega) hne).trans (hold k hk)⟩
  have kg : ∀ j, w5.cell? ⟨g, j, none⟩ = w3.cell? ⟨g, j, none⟩ := fun j => hg'.cell_far ⟨g, j, none⟩ hg2 (fun e => (hlo g e.symm).2.2 rfl)
  have kf : ∀ j, w5.frozen? ⟨g, j, none⟩ = w3.frozen? ⟨g, j, none⟩ := fun j => hg'.frozen_far ⟨g, j, none⟩ hg2 (fun e => (hlo g e.symm).2.2 rfl)
  have kR : ∀ j, w5.cell? ⟨w.heap.size, j, none⟩ = w3.cell? ⟨w.heap.size, j, none⟩ := fun j => hg'.cell_far ⟨w.heap.size, j, none⟩ hR2 (fun e => by have := (hlo w.heap.size e.symm).1; omega)
  have kRf : ∀ j, w5.frozen? ⟨w.heap.size, j, none⟩ = w3.frozen? ⟨w.heap.size, j, none⟩ := fun j => hg'.frozen_far ⟨w.heap.size, j, none⟩ hR2 (fun e => by have := (hlo w.heap.size e.symm).1; omega)
  have gr : w5.heap[w3.heap.size]? = some (.cells #[.int .i64 10, .int .i64 xh, .string ⟨#[]⟩] 34 (0, 0)) := by
    rw [hgrow.block _ (by simp; omega) (fun e => by have := (hlo w3.heap.size e.symm).2.1; omega), Below.heap_alloc _ _ _ (by simp)]
    exact heap_alloc_new w3 _
  have q0 : w5.cell? ⟨w3.heap.size, 0, none⟩ = some (.int .i64 10) := cell_of_row w5 w3.heap.size 0 _ _ _ gr
  have q1 : w5.cell? ⟨w3.heap.size, 1, none⟩ = some (.int .i64 xh) := cell_of_row w5 w3.heap.size 1 _ _ _ gr
  have q2 : w5.cell? ⟨w3.heap.size, 2, none⟩ = some (.string ⟨#[]⟩) := cell_of_row w5 w3.heap.size 2 _ _ _ gr
  have HO5 : Hid (OwnL (w5.setCell ⟨g, p.length * 4 + 3, none⟩ (.slice (some ⟨gn, 0, none⟩) (xl.length + 1) cn)) w1.heap.size (.slice (some ⟨g, 0, none⟩) ls.length oc) (p ++ (⟨xn, xh, xf, xl ++ [who]⟩, .slice (some ⟨gn, 0, none⟩) (xl.length + 1) cn) :: s)) := by
    have e1 : (xl ++ [who]).length = xl.length + 1 := by simp
    have e2 : intCells (xl ++ [who]) = intCells xl ++ [.int .i64 who] := by simp [intCells]
    have hown' : w5.ownsRow w1.heap.size 3 1 (.slice (some ⟨gn, 0, none⟩) (xl.length + 1) cn) (xl ++ [who]).length (intCells (xl ++ [who])) := by rw [e1, e2]; exact hown
    exact HO2.out.setLine hg' hown' (by rw [e1]; omega) (fun b hb => by
      have hb' : gn = b := by simpa [Value.ownBlock] using hb
      subst hb'
      rcases hat with e | e
      · exact Or.inl e
      · right; omega)
  have HB5 := Hid.mk' (HB2.out.grown hg' (by omega) (fun k hk => by have := (hlo k hk).1; omega))
  have hz5 : w3.heap.size ≤ w5.heap.size := hg'.size
  clear hown hgrow hat hlt hg' hold hlo hi hz0 hz1' hz2' gr
  go_wp2_with fail
  go_region
  go_wp2
  refine bodyPost_ret (v := .tuple #[.slice (some ⟨g, 0, none⟩) ls.length oc, replyV (10) (xh), .int .i64 0]) (by simp [results, Try.results19, go_sem, replyV, r0, r1, r2, kR]) rfl ⟨_, rfl, ?_, ?_⟩
  · have K := HO5.out.readsLow hRw (.int .i64 10) (.int .i64 xh) (.string ⟨#[]⟩) rfl
    rw [map_mid p s (⟨xn, xh, xf, xl⟩, .slice lo xl.length lc), HRS.out] at K
    exact K.drew
  · exact (below3 (HB5.out.setCell (by show w.heap.size ≤ g; omega) _) (Nat.le_refl _) _ _ _).drew

end Go.Proofs.Ytkmkocbpclkhhab
