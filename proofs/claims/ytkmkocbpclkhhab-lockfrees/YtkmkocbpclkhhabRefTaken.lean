/- The document's TakenOf. -/
import Derived.Test.YtkmkocbpclkhhabRefWith
namespace Go.Proofs.Ytkmkocbpclkhhab
open Go.RowKit

set_option maxRecDepth 100000 in
set_option maxHeartbeats 1600000 in
theorem takenOf_bad (v : Value) (ls : List LockD) (nm : ByteArray) (who : Int) (wait : Bool) (w : World) (B : Nat) (hv : LocksR w B v ls) (hB : B ≤ w.heap.size) (hs : nm.size ≤ 140737488351232) (hr : refuseL ls nm who ≠ 0) :
    Calls Try.prog 19 #[v, .string nm, .int .i64 who, .bool wait] w fun e w' => e = .returned (.tuple #[.slice none 0 0, replyV 0 0, .int .i64 (refuseL ls nm who)]) ∧ Below w.heap.size w w' := by
  have hb0 : Below w.heap.size w (w.alloc (.cells #[.int .i64 0, .int .i64 0, .string ⟨#[]⟩] 34)) := (Below.refl _ _).alloc (Nat.le_refl _) _
  have CR := asked_any v ls nm who _ B (hv.below hb0 hB) (by simp; omega) hs
  obtain ⟨ao, cap, rfl, -⟩ := hv
  obtain ⟨c, hc⟩ : ∃ c, c = refuseL ls nm who := ⟨_, rfl⟩
  rw [← hc] at CR hr ⊢
  clear hc
  have hr2 : (c != 0) = true := by simpa using hr
  clear hr
  go_enter Try.func19, Try.ntmps19
  go_wp2_with fail
  refine CR.mono ?_
  rintro e w1 ⟨rfl, hb1⟩
  have HR1 : ReplyAt w1 w.heap.size := ReplyAt.below (heap_alloc_new w _) hb1 (by simp)
  obtain ⟨r0, r1, r2, rf⟩ := HR1.cells
  have HB := Hid.mk' (hb0.trans (hb1.mono (by simp)))
  clear hb1 HR1 hb0
  go_wp2
  refine bodyPost_ret (v := .tuple #[.slice none 0 0, replyV 0 0, .int .i64 c]) (by simp [results, Try.results19, go_sem, replyV, r0, r1, r2]) rfl ⟨rfl, ?_⟩
  exact ((HB.out.setCell (Nat.le_refl _) _).setCell (Nat.le_refl _) _).setCell (Nat.le_refl _) _

/-- Locks that are read below a store. -/
theorem OwnL.readsLow {w w' : World} {base : Nat} {v : Value} {rs : List (LockD × Value)} (h : OwnL w base v rs) {b : Nat} (hb : b < base) (x y z : Value) (hw : w' = ((w.setCell ⟨b, 0, none⟩ x).setCell ⟨b, 1, none⟩ y).setCell ⟨b, 2, none⟩ z) : LocksR w' w'.heap.size v (rs.map (·.1)) := by
  subst hw
  exact (h.low3 hb x y z).reads (Nat.le_refl _)

theorem below3 {B : Nat} {w w1 : World} (h : Below B w w1) {b : Nat} (hb : B ≤ b) (x y z : Value) : Below B w (((w1.setCell ⟨b, 0, none⟩ x).setCell ⟨b, 1, none⟩ y).setCell ⟨b, 2, none⟩ z) :=
  ((h.setCell hb x).setCell hb y).setCell hb z

theorem setCell_size (w : World) (a : Addr) (u : Value) : (w.setCell a u).heap.size = w.heap.size := by simp [World.setCell]

set_option maxRecDepth 100000 in
set_option maxHeartbeats 1600000 in
theorem takenOf_none (v : Value) (ls : List LockD) (nm : ByteArray) (who : Int) (wait : Bool) (w : World) (B : Nat) (hv : LocksR w B v ls) (hB : B ≤ w.heap.size) (hs : nm.size ≤ 140737488351232) (hr : refuseL ls nm who = 0) (hck : checkL ls = 0) (hat : ¬ atL ls nm < ls.length) :
    Calls Try.prog 19 #[v, .string nm, .int .i64 who, .bool wait] w fun e w' => ∃ v', e = .returned (.tuple #[v', replyV (takeL ls nm who wait).2.1 (takeL ls nm who wait).2.2, .int .i64 0]) ∧ LocksR w' w'.heap.size v' (takeL ls nm who wait).1 ∧ Below w.heap.size w w' := by
  have hb0 : Below w.heap.size w (w.alloc (.cells #[.int .i64 0, .int .i64 0, .string ⟨#[]⟩] 34)) := (Below.refl _ _).alloc (Nat.le_refl _) _
  have hv0 := hv.below hb0 hB
  have CR := asked_any v ls nm who _ B hv0 (by simp; omega) hs
  rw [hr] at CR
  obtain ⟨hx5, -⟩ := check_each hck
  have hxm : ∀ (j : Nat) (y : LockD), ls[j]? = some y → eqN y.name nm = false := fun j y hy => atL_none hat j y hy
  have htx2 : takeL ls nm who wait = (if ls.length = 5 then (ls, 8, 0) else (ls.take (placeL ls nm) ++ ⟨nm, who, 1, []⟩ :: ls.drop (placeL ls nm), 0, 1)) := by unfold takeL; rw [dif_neg hat]
  rw [htx2]
  have HV0 := Hid.mk' hv0
  have HM := Hid.mk' hxm
  have hll := hv.len
  obtain ⟨ao, cap, rfl, -⟩ := hv
  clear hr hck hxm htx2 hv0 hat
  by_cases h5 : ls.length = 5
  · rw [if_pos h5]
    simp only
    have H5 := Hid.mk' h5
    have h5b : ((5 : Int) ≤ (ls.length : Int)) := by omega
    clear h5
    go_enter Try.func19, Try.ntmps19
    go_wp2_with fail
    refine CR.mono ?_
    rintro e w1 ⟨rfl, hb1⟩
    have HR1 := Hid.mk' (ReplyAt.below (heap_alloc_new w _) hb1 (by simp))
    have hv1 := HV0.out.below hb1 (by simp; omega)
    have HB1 := Hid.mk' (hb0.trans (hb1.mono (by simp)))
    have hz1 : B ≤ w1.heap.size := by have := HB1.out.size; omega
    clear hb1 hb0 CR HV0
    go_wp2_with fail
    refine (locksCopy_any _ ls w1 B hv1 hz1).mono ?_
    rintro e w2 ⟨v2, rs, rfl, hrs, hown2, hb2⟩
    have HR2 := Hid.mk' (HR1.out.below hb2 HR1.out.lt)
    have HB2 := Hid.mk' (HB1.out.trans (hb2.mono HB1.out.size))
    have hrd := hown2.reads (Nat.le_refl _)
    rw [hrs] at hrd
    have CA := lockAt_none v2 ls nm w2 _ hrd HM.out
    have hrl : rs.length = ls.length := by rw [← hrs, List.length_map]
    have HO2 := Hid.mk' hown2
    obtain ⟨oo, oc, e2⟩ := ownsRow_shape hown2.row
    rw [hrl] at e2
    subst e2
    obtain ⟨r0, r1, r2, rf⟩ := HR2.out.cells
    have hRw : w.heap.size < w1.heap.size := HR1.out.lt
    have HRS := Hid.mk' hrs
    clear hb2 hown2 hrs hv1 hrd hrl
    go_wp2_with fail
    refine CA.mono ?_
    rintro e w3 ⟨rfl, rfl⟩
    clear CA
    go_wp2
    refine bodyPost_ret (v := .tuple #[.slice oo ls.length oc, replyV 8 0, .int .i64 0]) (by simp [results, Try.results19, go_sem, replyV, r0, r1, r2]) rfl ⟨_, rfl, ?_, below3 HB2.out (Nat.le_refl _) _ _ _⟩
    have K := HO2.out.readsLow hRw (.int .i64 8) (.int .i64 0) (.string ⟨#[]⟩) rfl
    rwa [HRS.out] at K
  · rw [if_neg h5]
    simp only
    have h5b : ¬ ((5 : Int) ≤ (ls.length : Int)) := by omega
    have h5c : ls.length < 5 := by omega
    clear h5
    go_enter Try.func19, Try.ntmps19
    go_wp2_with fail
    refine CR.mono ?_
    rintro e w1 ⟨rfl, hb1⟩
    have HR1 := Hid.mk' (ReplyAt.below (heap_alloc_new w _) hb1 (by simp))
    have hv1 := HV0.out.below hb1 (by simp; omega)
    have HB1 := Hid.mk' (hb0.trans (hb1.mono (by simp)))
    have hz1 : B ≤ w1.heap.size := by have := HB1.out.size; omega
    clear hb1 hb0 CR HV0
    go_wp2_with fail
    refine (locksCopy_any _ ls w1 B hv1 hz1).mono ?_
    rintro e w2 ⟨v2, rs, rfl, hrs, hown2, hb2⟩
    have HR2 := Hid.mk' (HR1.out.below hb2 HR1.out.lt)
    have HB2 := Hid.mk' (HB1.out.trans (hb2.mono HB1.out.size))
    have hrd := hown2.reads (Nat.le_refl _)
    rw [hrs] at hrd
    have CA := lockAt_none v2 ls nm w2 _ hrd HM.out
    have hrl : rs.length = ls.length := by rw [← hrs, List.length_map]
    have CW := withLock_any v2 rs nm who 1 w2 w2.heap.size hown2.rowR (Nat.le_refl _) (by omega)
    have HO2 := Hid.mk' hown2
    have HRS := Hid.mk' hrs
    have HRL := Hid.mk' hrl
    obtain ⟨oo, oc, e2⟩ := ownsRow_shape hown2.row
    rw [hrl] at e2
    subst e2
    have hz12 : w1.heap.size ≤ w2.heap.size := hb2.size
    clear hb2 hown2 hrs hv1 hrd hrl
    go_wp2_with fail
    refine CA.mono ?_
    rintro e w3 ⟨rfl, rfl⟩
    clear CA
    go_wp2_with fail
    refine CW.mono ?_
    rintro e w4 ⟨v4, rfl, hown4, hb4⟩
    have HR4 := Hid.mk' (HR2.out.below hb4 HR2.out.lt)
    have HB4 := Hid.mk' (HB2.out.trans (hb4.mono HB2.out.size))
    obtain ⟨r0, r1, r2, rf⟩ := HR4.out.cells
    have hRw : w.heap.size < w1.heap.size := HR1.out.lt
    have HO4 : Hid (OwnL w4 w1.heap.size v4 (insR ⟨nm, who, 1, []⟩ rs)) := by
      have hlen : (insR ⟨nm, who, 1, []⟩ rs).length = rs.length + 1 := by
        rw [insR_place]
        have := placeL_le (rs.map (·.1)) nm
        simp at this
        simp
        omega
      rw [hlen, insR_place] at hown4
      unfold Hid
      rw [insR_place]
      exact HO2.out.insert hb4 hz12 hown4 (by have := placeL_le (rs.map (·.1)) nm; simpa using this) rfl hs (by have := HRL.out; omega)
    obtain ⟨vo, vc, e4⟩ := ownsRow_shape hown4
    obtain ⟨vn, hvn⟩ : ∃ vn, vn = (insR ⟨nm, who, 1, []⟩ rs).length := ⟨_, rfl⟩
    rw [← hvn] at e4
    subst e4
    clear hown4 hb4 CW hvn
    go_wp2
    refine bodyPost_ret (v := .tuple #[.slice vo vn vc, replyV 0 1, .int .i64 0]) (by simp [results, Try.results19, go_sem, replyV, r0, r1, r2]) rfl ⟨_, rfl, ?_, below3 HB4.out (Nat.le_refl _) _ _ _⟩
    have K := HO4.out.readsLow hRw (.int .i64 0) (.int .i64 1) (.string ⟨#[]⟩) rfl
    rw [insR_place, List.map_append, List.map_cons, List.map_take, List.map_drop, HRS.out] at K
    exact K
end Go.Proofs.Ytkmkocbpclkhhab
