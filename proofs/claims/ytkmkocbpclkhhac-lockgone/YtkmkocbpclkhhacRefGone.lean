/- The document's GoneOf, where it refuses nothing. -/
import Derived.Test.YtkmkocbpclkhhacLockGone
namespace Go.Proofs.Ytkmkocbpclkhhac
open Go.RowKit

theorem filter_self {xs : List Int} {who : Int} (h : ∀ y ∈ xs, y ≠ who) : xs.filter (· != who) = xs :=
  List.filter_eq_self.2 fun y hy => by simpa using h y hy

theorem leaveX_rest {x : LockD} {who : Int} (h : ¬ x.holder = who) : leaveX x who = ⟨x.name, x.holder, x.fence, x.line.filter (· != who)⟩ := by simp [leaveX, h]

theorem below_put {B : Nat} {w w1 : World} (h : Below B w w1) (g j : Nat) (hg : B ≤ g) (u : Value) : Below B w (w1.setCell ⟨g, j, none⟩ u) := h.setCell hg u

theorem giveUpX_le {x : LockD} : (giveUpX x).name = x.name ∧ (giveUpX x).line.length ≤ x.line.length := by
  obtain ⟨xn, xh, xf, xl⟩ := x
  cases xl with
  | nil => simp [giveUpX]
  | cons a t => by_cases h : xf = 1073741824 <;> simp [giveUpX, h]

set_option maxRecDepth 100000 in
set_option maxHeartbeats 3200000 in
theorem goneOf_ok (v : Value) (ls : List LockD) (who : Int) (w : World) (B : Nat) (hv : LocksR w B v ls) (hB : B ≤ w.heap.size) (hr : goneE ls who = 0) :
    Calls Try.prog 10 #[v, .int .i64 who] w fun e w' => ∃ v', e = .returned (.tuple #[v', .int .i64 0]) ∧ LocksR w' w'.heap.size v' (goneL ls who) ∧ Below w.heap.size w w' := by
  obtain ⟨hck, hw1, hw2⟩ := goneE_zero hr
  have CR := locksFault_any v ls w B hv hB
  rw [hck] at CR
  obtain ⟨hx5, hxc⟩ := check_each hck
  have HC := Hid.mk' hxc
  have HV := Hid.mk' hv
  have hll := hv.len
  obtain ⟨ao, cap, rfl, -⟩ := hv
  clear hr hck hxc
  go_enter Try.func10, Try.ntmps10
  go_wp2_with fail
  refine CR.mono ?_
  rintro e w1 ⟨rfl, hb1⟩
  go_wp2_with fail
  refine (in_yes who 1 9 _ hw1 hw2).mono ?_
  rintro e w1 ⟨rfl, rfl⟩
  have hv1 := HV.out.below hb1 hB
  have HB1 := Hid.mk' hb1
  have hz1 : B ≤ w1.heap.size := by have := hb1.size; omega
  have hzw : w.heap.size ≤ w1.heap.size := hb1.size
  clear hb1 CR HV
  go_wp2_with fail
  refine (locksCopy_any _ ls w1 B hv1 hz1).mono ?_
  rintro e w2 ⟨v2, rs, rfl, hrs, hown2, hb2⟩
  have HB2 := Hid.mk' (HB1.out.trans (hb2.mono HB1.out.size))
  have hrl : rs.length = ls.length := by rw [← hrs, List.length_map]
  obtain ⟨oo, oc, e2⟩ := ownsRow_shape hown2.row
  rw [hrl] at e2
  subst e2
  have HO2 : Hid (∃ rs, rs.map (·.1) = mixL ls who 0 ∧ OwnL w2 w1.heap.size (.slice oo ls.length oc) rs) := ⟨rs, by rw [hrs, mixL_zero], hown2⟩
  clear hb2 hown2 hrs hv1 hrl
  go_wp2
  go_loopw [8] (fun i wr => ∃ (k : Nat) (rs : List (LockD × Value)), k ≤ ls.length ∧ i = .int .i64 k ∧ rs.map (·.1) = mixL ls who k ∧ OwnL wr w1.heap.size (.slice oo ls.length oc) rs ∧ Below w.heap.size w wr)
    (fun i _ => ls.length - (intOf i).toNat)
  case atStart =>
    obtain ⟨rs, h1, h2⟩ := HO2.out
    exact ⟨0, rs, Nat.zero_le _, rfl, h1, h2, HB2.out⟩
  case round =>
    obtain ⟨k, rs, hk, rfl, hrs, hown, hb⟩ := hrel
    by_cases hlt : k < ls.length
    · obtain ⟨x, hx⟩ : ∃ x, ls[k]? = some x := ⟨_, List.getElem?_eq_getElem hlt⟩
      obtain ⟨hxf, hx1, hx2⟩ := HC.out k x hx
      obtain ⟨hx3, -, -, hxl, -⟩ := form_line hxf
      have hm := mixL_at (who := who) hx
      have HS := Hid.mk' (mixL_step (who := who) hx)
      rw [← hrs, List.getElem?_map] at hm
      obtain ⟨r, hr, hrx⟩ := Option.map_eq_some_iff.1 hm
      obtain ⟨p, s, hps, hpl⟩ := split_at hr
      subst hps
      subst hrx
      subst hpl
      obtain ⟨g, oc', e2, hg1, hg2⟩ := hown.row.form (by simp; omega)
      obtain ⟨rfl, -, rfl⟩ : oo = some ⟨g, 0, none⟩ ∧ True ∧ oc = oc' := by
        simp only [Value.slice.injEq] at e2
        exact ⟨e2.1, trivial, e2.2.2⟩
      have HRS := Hid.mk' hrs
      have HBK := Hid.mk' hb
      have hline := hown.line
      obtain ⟨⟨xn, xh, xf, xl⟩, lv⟩ := r
      simp only at hline hx1 hx2 hx3 hxl
      have c0 := hown.cellAt 0 (by omega)
      have c1 := hown.cellAt 1 (by omega)
      have c2 := hown.cellAt 2 (by omega)
      have c3 := hown.cellAt 3 (by omega)
      simp only [lockCells, List.getElem?_cons_zero, List.getElem?_cons_succ, Nat.add_zero] at c0 c1 c2 c3
      have hfz := hown.frozenAt
      have CU := unlined_any lv xl who wr wr.heap.size (ownsRow_ints hline.1 hline.2.1 (Nat.le_refl _)) (Nat.le_refl _)
      have hns : xn.size ≤ 140737488351232 := hline.2.2
      obtain ⟨lo, lc, rfl⟩ := ownsRow_shape hline.1
      have HW := Hid.mk' hown
      have hzr : w1.heap.size ≤ wr.heap.size := by omega
      have hfl : (xl.filter (· != who)).length ≤ xl.length := List.length_filter_le _ _
      have hpl : p.length < ls.length := hlt
      clear hm hr hx hxf hrs hb hown HO2 e2 hline
      by_cases hw : xh = who
      · subst hw
        have hfe : xl.filter (· != xh) = xl := filter_self fun y hy => by
          obtain ⟨j, hj⟩ := List.getElem?_of_mem hy
          exact ((lineB_yes hxl).2.2 j y hj).2.2.1
        rw [hfe] at CU
        rw [leaveX_holder rfl] at HS
        obtain ⟨⟨yn, yh, yf, yl⟩, hy⟩ : ∃ y, giveUpX ⟨xn, xh, xf, xl⟩ = y := ⟨_, rfl⟩
        have hyle := giveUpX_le (x := ⟨xn, xh, xf, xl⟩)
        rw [hy] at HS hyle
        simp only at hyle
        have hyn : yn.size ≤ 140737488351232 := by rw [hyle.1]; exact hns
        have hyl : yl.length ≤ 3 := by omega
        have HY := Hid.mk' hy
        clear hfe hxl hfl hy hyle
        go_wp2_with fail
        refine CU.mono ?_
        rintro e w5 ⟨lv1, rfl, hown5, hb5⟩
        have kg : ∀ j, w5.cell? ⟨g, j, none⟩ = wr.cell? ⟨g, j, none⟩ := fun j => hb5.cell (p := ⟨g, j, none⟩) hg2
        have kf : ∀ j, w5.frozen? ⟨g, j, none⟩ = wr.frozen? ⟨g, j, none⟩ := fun j => World.frozen?_of_block (w := wr) (hb5.block g hg2)
        have HO6 : Hid (OwnL (w5.setCell ⟨g, p.length * 4 + 3, none⟩ lv1) w1.heap.size (.slice (some ⟨g, 0, none⟩) ls.length oc) (p ++ (⟨xn, xh, xf, xl⟩, lv1) :: s)) :=
          HW.out.setLine ⟨hb5.os, hb5.tape, hb5.output, hb5.size, fun k hk _ => hb5.block k hk⟩ (ownsRow_mono hown5 hzr) (by omega) (fun b hb => Or.inr (hown5.lt b hb).1)
        obtain ⟨vo, vc, rfl⟩ := ownsRow_shape hown5
        have HB6 := Hid.mk' (below_put (HBK.out.trans (hb5.mono (by omega))) g (p.length * 4 + 3) (by omega) (.slice vo xl.length vc))
        have l6 := HO6.out.line
        simp only at l6
        have CP := passed_any ⟨xn, xh, xf, xl⟩ (.slice vo xl.length vc) (w5.setCell ⟨g, p.length * 4 + 3, none⟩ (.slice vo xl.length vc)) _ (ownsRow_ints l6.1 l6.2.1 (Nat.le_refl _)) (Nat.le_refl _) (Nat.le_succ_of_le hx3) hx1 hx2
        rw [HY.out] at CP
        simp only at CP
        have hz5 : wr.heap.size ≤ w5.heap.size := hb5.size
        clear hown5 hb5 CU l6
        go_wp2_with fail
        refine CP.mono ?_
        rintro e w7 ⟨lv2, rfl, hown7, hb7⟩
        have HO8 : Hid (OwnL ((((w7.setCell ⟨g, p.length * 4, none⟩ (.string yn)).setCell ⟨g, p.length * 4 + 1, none⟩ (.int .i64 yh)).setCell ⟨g, p.length * 4 + 2, none⟩ (.int .i64 yf)).setCell ⟨g, p.length * 4 + 3, none⟩ lv2) w1.heap.size (.slice (some ⟨g, 0, none⟩) ls.length oc) (p ++ (⟨yn, yh, yf, yl⟩, lv2) :: s)) :=
          HO6.out.putAll (x := ⟨yn, yh, yf, yl⟩) hb7 (by simp [World.setCell]; omega) hown7 (by show yl.length * 8 ≤ _; omega) hyn
        have HB7 := Hid.mk' (HB6.out.trans (hb7.mono HB6.out.size))
        have hg7 : g < (w5.setCell ⟨g, p.length * 4 + 3, none⟩ (.slice vo xl.length vc)).heap.size := HO6.out.block.2
        have e0 := (hb7.cell (p := ⟨g, p.length * 4, none⟩) hg7).trans (by have := HO6.out.cellAt 0 (by omega); simpa [lockCells] using this)
        have e1 := (hb7.cell (p := ⟨g, p.length * 4 + 1, none⟩) hg7).trans (by have := HO6.out.cellAt 1 (by omega); simpa [lockCells] using this)
        have e2 := (hb7.cell (p := ⟨g, p.length * 4 + 2, none⟩) hg7).trans (by have := HO6.out.cellAt 2 (by omega); simpa [lockCells] using this)
        have e3 := (hb7.cell (p := ⟨g, p.length * 4 + 3, none⟩) hg7).trans (by have := HO6.out.cellAt 3 (by omega); simpa [lockCells] using this)
        have ef : ∀ j, w7.frozen? ⟨g, j, none⟩ = false := fun j => (World.frozen?_of_block (w := w5.setCell ⟨g, p.length * 4 + 3, none⟩ (.slice vo xl.length vc)) (hb7.block g hg7)).trans (HO6.out.frozenAt j)
        obtain ⟨uo, uc, rfl⟩ := ownsRow_shape hown7
        have HF := Hid.mk' (below_put (below_put (below_put (below_put HB7.out g (p.length * 4) (by omega) (.string yn)) g (p.length * 4 + 1) (by omega) (.int .i64 yh)) g (p.length * 4 + 2) (by omega) (.int .i64 yf)) g (p.length * 4 + 3) (by omega) (.slice uo yl.length uc))
        clear hown7 hb7 CP kg kf c0 c1 c2 c3 hfz
        go_wp2
        go_roundw
        case rel =>
          refine ⟨p.length + 1, _, by omega, by go_num, ?_, HO8.out, HF.out⟩
          rw [map_mid p s (⟨xn, xh, xf, xl⟩, .slice lo xl.length lc), HRS.out]
          exact HS.out
        case measure => simp [intOf]; omega
      · rw [leaveX_rest hw] at HS
        simp only at HS
        go_wp2_with fail
        refine CU.mono ?_
        rintro e w5 ⟨lv1, rfl, hown5, hb5⟩
        have kg : ∀ j, w5.cell? ⟨g, j, none⟩ = wr.cell? ⟨g, j, none⟩ := fun j => hb5.cell (p := ⟨g, j, none⟩) hg2
        have kf : ∀ j, w5.frozen? ⟨g, j, none⟩ = wr.frozen? ⟨g, j, none⟩ := fun j => World.frozen?_of_block (w := wr) (hb5.block g hg2)
        have HO6 : Hid (OwnL (w5.setCell ⟨g, p.length * 4 + 3, none⟩ lv1) w1.heap.size (.slice (some ⟨g, 0, none⟩) ls.length oc) (p ++ (⟨xn, xh, xf, xl.filter (· != who)⟩, lv1) :: s)) :=
          HW.out.setLine ⟨hb5.os, hb5.tape, hb5.output, hb5.size, fun k hk _ => hb5.block k hk⟩ (ownsRow_mono hown5 hzr) (by omega) (fun b hb => Or.inr (hown5.lt b hb).1)
        have HB6 := Hid.mk' (below_put (HBK.out.trans (hb5.mono (by omega))) g (p.length * 4 + 3) (by omega) lv1)
        obtain ⟨vo, vc, rfl⟩ := ownsRow_shape hown5
        clear hown5 hb5 CU hxl hfl
        go_wp2
        go_roundw
        case rel =>
          refine ⟨p.length + 1, _, by omega, by go_num, ?_, HO6.out, HB6.out⟩
          rw [map_mid p s (⟨xn, xh, xf, xl⟩, .slice lo xl.length lc), HRS.out]
          exact HS.out
        case measure => simp [intOf]; omega
    · have hkl : k = ls.length := by omega
      subst hkl
      have HF := Hid.mk' (⟨hown.reads (Nat.le_refl _), hrs, hb⟩ : _ ∧ _ ∧ _)
      clear hown hrs hb HO2
      go_wp2
      refine bodyPost_ret (v := .tuple #[.slice oo ls.length oc, .int .i64 0]) (by simp [results, Try.results10, go_sem]) rfl ?_
      refine ⟨_, rfl, ?_, HF.out.2.2⟩
      have K := HF.out.1
      rwa [HF.out.2.1, mixL_end] at K
end Go.Proofs.Ytkmkocbpclkhhac
