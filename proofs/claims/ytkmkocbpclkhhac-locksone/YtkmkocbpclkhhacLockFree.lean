/- lock.Free: a lock, or a place in its line, given up. -/
import Derived.Test.YtkmkocbpclkhhacLockTake
namespace Go.Proofs.Ytkmkocbpclkhhac
open Go.RowKit

/-- Has a client the lock, or a place in its line? -/
def hasX (x : LockD) (who : Int) : Bool := decide (x.holder = who) || hasB who x.line

/-- What Free leaves, and its reply. -/
def freeL (ls : List LockD) (nm : ByteArray) (who : Int) : List LockD × Int × Int :=
  if h : atL ls nm < ls.length then
    (ls.set (atL ls nm) (leaveX ls[atL ls nm] who), (if hasX ls[atL ls nm] who = true then 0 else 10), (leaveX ls[atL ls nm] who).holder)
  else (ls, 6, 0)

theorem freeL_found {ls : List LockD} {nm : ByteArray} {who : Int} {x : LockD} (hat : atL ls nm < ls.length) (hx : ls[atL ls nm]? = some x) : freeL ls nm who = (ls.set (atL ls nm) (leaveX x who), (if hasX x who = true then 0 else 10), (leaveX x who).holder) := by
  have e : ls[atL ls nm] = x := (List.getElem?_eq_some_iff.1 hx).2
  unfold freeL
  rw [dif_pos hat, e]

theorem LocksR.drew0 {w : World} {v : Value} {ls : List LockD} (h : LocksR w w.heap.size v ls) : LocksR w.drew w.drew.heap.size v ls := h.below ((Below.refl w.heap.size w).drew) (Nat.le_refl _)

theorem nodup_line {xs : List Int} {h : Int} (hl : lineB xs h = true) : xs.Nodup := by
  obtain ⟨_, _, h3⟩ := lineB_yes hl
  refine List.pairwise_iff_getElem.2 fun i j hi hj hij e => ?_
  have hx : xs[j]? = some xs[j] := List.getElem?_eq_getElem hj
  have := (h3 j _ hx).2.2.2
  refine hasB_none this i ?_
  rw [List.getElem?_take, if_pos hij, List.getElem?_eq_getElem hi, e]

set_option maxRecDepth 100000 in
set_option maxHeartbeats 1600000 in
theorem Free_bad (v : Value) (ls : List LockD) (nm : ByteArray) (who : Int) (w : World) (B : Nat) (hv : LocksR w B v ls) (hB : B ≤ w.heap.size) (hs : nm.size ≤ 140737488351232) (hr : refuseL ls nm who ≠ 0) :
    Calls Try.prog 19 #[v, .string nm, .int .i64 who] w fun e w' => e = .returned (.tuple #[.slice none 0 0, replyV 0 0, .int .i64 (refuseL ls nm who)]) ∧ Below w.heap.size w w' := by
  have hb0 : Below w.heap.size w (w.alloc (.cells #[.int .i64 0, .int .i64 0, .string ⟨#[]⟩] 37)) := (Below.refl _ _).alloc (Nat.le_refl _) _
  have CR := refuse_any v ls nm who _ B (hv.below hb0 hB) (by simp; omega) hs
  obtain ⟨ao, cap, rfl, -⟩ := hv
  obtain ⟨c, hc⟩ : ∃ c, c = refuseL ls nm who := ⟨_, rfl⟩
  rw [← hc] at CR hr ⊢
  clear hc
  have hr2 : (c != 0) = true := by simpa using hr
  clear hr
  go_enter Try.func19, Try.ntmps19
  go_wp2_with fail
  refine CR.mono ?_
  rintro e w1 ⟨rfl, hb1⟩
  have HR1 : ReplyAt w1 w.heap.size := ReplyAt.below (heap_alloc_new w _) hb1 (by simp)
  obtain ⟨r0, r1, r2, rf⟩ := HR1.cells
  have HB := Hid.mk' (hb0.trans (hb1.mono (by simp)))
  clear hb1 HR1 hb0
  go_wp2
  refine bodyPost_ret (v := .tuple #[.slice none 0 0, replyV 0 0, .int .i64 c]) (by simp [results, Try.results19, go_sem, replyV, r0, r1, r2]) rfl ⟨rfl, ?_⟩
  exact ((HB.out.setCell (Nat.le_refl _) _).setCell (Nat.le_refl _) _).setCell (Nat.le_refl _) _

set_option maxRecDepth 100000 in
set_option maxHeartbeats 1600000 in
theorem Free_none (v : Value) (ls : List LockD) (nm : ByteArray) (who : Int) (w : World) (B : Nat) (hv : LocksR w B v ls) (hB : B ≤ w.heap.size) (hs : nm.size ≤ 140737488351232) (hr : refuseL ls nm who = 0) (hck : checkL ls = 0) (hat : ¬ atL ls nm < ls.length) :
    Calls Try.prog 19 #[v, .string nm, .int .i64 who] w fun e w' => ∃ v', e = .returned (.tuple #[v', replyV (freeL ls nm who).2.1 (freeL ls nm who).2.2, .int .i64 0]) ∧ LocksR w' w'.heap.size v' (freeL ls nm who).1 ∧ Below w.heap.size w w' := by
  have hb0 : Below w.heap.size w (w.alloc (.cells #[.int .i64 0, .int .i64 0, .string ⟨#[]⟩] 37)) := (Below.refl _ _).alloc (Nat.le_refl _) _
  have hv0 := hv.below hb0 hB
  have CR := refuse_any v ls nm who _ B hv0 (by simp; omega) hs
  rw [hr] at CR
  obtain ⟨hx5, -⟩ := check_each hck
  have hxm : ∀ (j : Nat) (y : LockD), ls[j]? = some y → eqN y.name nm = false := fun j y hy => atL_none hat j y hy
  have htx : freeL ls nm who = (ls, 6, 0) := by unfold freeL; rw [dif_neg hat]
  rw [htx]
  clear htx
  have HV0 := Hid.mk' hv0
  have HM := Hid.mk' hxm
  have hll := hv.len
  obtain ⟨ao, cap, rfl, -⟩ := hv
  clear hr hck hxm hv0 hat
  simp only
  go_enter Try.func19, Try.ntmps19
  go_wp2_with fail
  refine CR.mono ?_
  rintro e w1 ⟨rfl, hb1⟩
  have HR1 := Hid.mk' (ReplyAt.below (heap_alloc_new w _) hb1 (by simp))
  have hv1 := HV0.out.below hb1 (by simp; omega)
  have HB1 := Hid.mk' (hb0.trans (hb1.mono (by simp)))
  have hz1 : B ≤ w1.heap.size := by have := HB1.out.size; omega
  clear hb1 hb0 CR HV0
  go_wp2_with fail
  refine (copy_any _ ls w1 B hv1 hz1).mono ?_
  rintro e w2 ⟨rfl, rs, hrs, hown2, hb2⟩
  have HR2 := Hid.mk' (HR1.out.below hb2 HR1.out.lt)
  have HB2 := Hid.mk' (HB1.out.trans (hb2.mono HB1.out.size))
  have HRS := Hid.mk' hrs
  have HO2 := Hid.mk' hown2
  clear hb2 hown2 hrs hv1
  go_wp2_with fail
  refine (named_any nm _).mono ?_
  rintro e w3 ⟨rfl, rfl⟩
  have hb3 : Below w2.heap.size w2 (w2.alloc (.cells #[.string nm] 9)) := (Below.refl _ _).alloc (Nat.le_refl _) _
  have hrd : LocksR (w2.alloc (.cells #[.string nm] 9)) w2.heap.size (.slice (some ⟨w1.heap.size, 0, none⟩) ls.length ls.length) ls := by
    have := (HO2.out.reads (Nat.le_refl _)).below hb3 (Nat.le_refl _)
    rwa [HRS.out] at this
  go_wp2_with fail
  refine (indexNamed_none _ ls nm w2.heap.size _ _ hrd (by simp) (by simp) (by simp) HM.out).mono ?_
  rintro e w4 ⟨rfl, hb4⟩
  have hb24 : Below w2.heap.size w2 w4 := hb3.trans (hb4.mono (by simp))
  have HR4 := Hid.mk' (HR2.out.below hb24 HR2.out.lt)
  have HB4 := Hid.mk' (HB2.out.trans (hb24.mono HB2.out.size))
  have hown4 := HO2.out.below hb24 (Nat.le_refl _)
  obtain ⟨r0, r1, r2, rf⟩ := HR4.out.cells
  have hRw : w.heap.size < w1.heap.size := HR1.out.lt
  have HO4 := Hid.mk' hown4
  clear hb4 hb3 hrd hb24 HM hown4
  go_wp2
  refine bodyPost_ret (v := .tuple #[.slice (some ⟨w1.heap.size, 0, none⟩) ls.length ls.length, replyV 6 0, .int .i64 0]) (by simp [results, Try.results19, go_sem, replyV, r0, r1, r2]) rfl ⟨_, rfl, ?_, ?_⟩
  · have K := (HO4.out.low3 hRw (.int .i64 6) (.int .i64 0) (.string ⟨#[]⟩)).reads (Nat.le_refl _)
    rwa [HRS.out] at K
  · exact ((HB4.out.setCell (Nat.le_refl _) _).setCell (Nat.le_refl _) _).setCell (Nat.le_refl _) _

set_option maxRecDepth 100000 in
set_option maxHeartbeats 1600000 in
theorem Free_found (v : Value) (ls : List LockD) (nm : ByteArray) (who : Int) (w : World) (B : Nat) (hv : LocksR w B v ls) (hB : B ≤ w.heap.size) (hs : nm.size ≤ 140737488351232) (hr : refuseL ls nm who = 0) (hck : checkL ls = 0) (hat : atL ls nm < ls.length) :
    Calls Try.prog 19 #[v, .string nm, .int .i64 who] w fun e w' => ∃ v', e = .returned (.tuple #[v', replyV (freeL ls nm who).2.1 (freeL ls nm who).2.2, .int .i64 0]) ∧ LocksR w' w'.heap.size v' (freeL ls nm who).1 ∧ Below w.heap.size w w' := by
  have hb0 : Below w.heap.size w (w.alloc (.cells #[.int .i64 0, .int .i64 0, .string ⟨#[]⟩] 37)) := (Below.refl _ _).alloc (Nat.le_refl _) _
  have hv0 := hv.below hb0 hB
  have CR := refuse_any v ls nm who _ B hv0 (by simp; omega) hs
  rw [hr] at CR
  obtain ⟨x, hx, hxe⟩ := atL_found hat
  obtain ⟨hx5, hxc⟩ := check_each hck
  obtain ⟨hxf, hx1, hx2⟩ := hxc _ x hx
  obtain ⟨hx3, -, -, hxl, -⟩ := form_line hxf
  have hnd := nodup_line hxl
  have hxm : ∀ (j : Nat) (y : LockD), j < atL ls nm → ls[j]? = some y → eqN y.name nm = false := fun j y hj hy => atL_min j y hj hy
  rw [freeL_found hat hx]
  obtain ⟨i, hi⟩ : ∃ i, i = atL ls nm := ⟨_, rfl⟩
  rw [← hi] at hx hxm hat ⊢
  obtain ⟨⟨xn', xh', xf', xl'⟩, hx'⟩ : ∃ x', leaveX x who = x' := ⟨_, rfl⟩
  obtain ⟨q, hq0⟩ : ∃ q, hasX x who = q := ⟨_, rfl⟩
  rw [hx', hq0]
  have HXL := Hid.mk' hx'
  have HQ := Hid.mk' hq0
  clear hx' hq0
  have HV0 := Hid.mk' hv0
  have HX := Hid.mk' hx
  have HM := Hid.mk' hxm
  have HND := Hid.mk' hnd
  have hll := hv.len
  obtain ⟨ao, cap, rfl, -⟩ := hv
  clear hi hr hck hx hxm hxc hv0 hxf hxl hnd
  simp only
  go_enter Try.func19, Try.ntmps19
  go_wp2_with fail
  refine CR.mono ?_
  rintro e w1 ⟨rfl, hb1⟩
  have HR1 := Hid.mk' (ReplyAt.below (heap_alloc_new w _) hb1 (by simp))
  have hv1 := HV0.out.below hb1 (by simp; omega)
  have HB1 := Hid.mk' (hb0.trans (hb1.mono (by simp)))
  have hz1 : B ≤ w1.heap.size := by have := HB1.out.size; omega
  clear hb1 hb0 CR HV0
  go_wp2_with fail
  refine (copy_any _ ls w1 B hv1 hz1).mono ?_
  rintro e w2 ⟨rfl, rs, hrs, hown2, hb2⟩
  have HR2 := Hid.mk' (HR1.out.below hb2 HR1.out.lt)
  have HB2 := Hid.mk' (HB1.out.trans (hb2.mono HB1.out.size))
  have HRS := Hid.mk' hrs
  have HO2 := Hid.mk' hown2
  clear hb2 hown2 hrs hv1
  go_wp2_with fail
  refine (named_any nm _).mono ?_
  rintro e w3 ⟨rfl, rfl⟩
  have hb3 : Below w2.heap.size w2 (w2.alloc (.cells #[.string nm] 9)) := (Below.refl _ _).alloc (Nat.le_refl _) _
  have hrd : LocksR (w2.alloc (.cells #[.string nm] 9)) w2.heap.size (.slice (some ⟨w1.heap.size, 0, none⟩) ls.length ls.length) ls := by
    have := (HO2.out.reads (Nat.le_refl _)).below hb3 (Nat.le_refl _)
    rwa [HRS.out] at this
  go_wp2_with fail
  refine (indexNamed_found _ ls nm w2.heap.size i x _ _ hrd (by simp) (by simp) (by simp) HX.out hxe HM.out).mono ?_
  rintro e w4 ⟨rfl, hb4⟩
  have hb24 : Below w2.heap.size w2 w4 := hb3.trans (hb4.mono (by simp))
  have HR4 := Hid.mk' (HR2.out.below hb24 HR2.out.lt)
  have HB4 := Hid.mk' (HB2.out.trans (hb24.mono HB2.out.size))
  have hown4 := HO2.out.below hb24 (Nat.le_refl _)
  obtain ⟨r, hr, hrx⟩ : ∃ r, rs[i]? = some r ∧ r.1 = x := by
    have := HX.out
    rw [← HRS.out, List.getElem?_map] at this
    obtain ⟨r, h1, h2⟩ := Option.map_eq_some_iff.1 this
    exact ⟨r, h1, h2⟩
  obtain ⟨p, s, hps, hpl⟩ := split_at hr
  subst hps
  subst hrx
  subst hpl
  have CT := fun w' h => leave_any w1.heap.size ls.length ls.length p s r who w' w1.heap.size h (by omega) hx2 HND.out
  have hz4 : w1.heap.size ≤ w4.heap.size := by have := hb24.size; have := (HO2.out.row.lt w1.heap.size rfl).2; omega
  have hRw : w.heap.size < w1.heap.size := HR1.out.lt
  rw [HXL.out] at CT
  have hq1 : (decide (r.1.holder = who) || hasB who r.1.line) = q := HQ.out
  rw [hq1] at CT
  have hb45 : Below w4.heap.size w4 (w4.alloc (.cells #[.int .i64 0, .int .i64 0, .string ⟨#[]⟩] 37)) := (Below.refl _ _).alloc (Nat.le_refl _) _
  have hown45 := hown4.below hb45 (Nat.le_refl _)
  have hlow : ∀ k, OwnB w1.heap.size (p ++ r :: s) k → w1.heap.size ≤ k ∧ k < w4.heap.size := fun k hk => hown4.ownB k hk
  clear hb4 hb3 hrd hb24 hr HM hq1 hown4
  go_wp2_with fail
  refine (CT _ hown45).mono ?_
  rintro e w5 ⟨rfl, lv, hown5, ht5⟩
  have hb5 : Below w1.heap.size w4 w5 := (hb45.mono hz4).trans (ht5.below (by simp; omega) (fun k hk => (hlow k hk).1))
  have g5 : w5.heap[w4.heap.size]? = some (.cells #[.int .i64 0, .int .i64 0, .string ⟨#[]⟩] 37 (0, 0)) := (ht5.block _ (by simp) (fun hk => by have := (hlow _ hk).2; omega)).trans (heap_alloc_new w4 _)
  have hz45 : w4.heap.size < w5.heap.size := lt_of_block g5
  have HR5 := Hid.mk' (HR4.out.below hb5 hRw)
  obtain ⟨r0, r1, r2, rf⟩ := HR5.out.cells
  obtain ⟨t0, t1, t2, tf⟩ := ReplyAt.cells (show ReplyAt w5 w4.heap.size from g5)
  have d1 := hown5.cellAt 1 (by omega)
  simp only [lockCells, List.getElem?_cons_zero, List.getElem?_cons_succ] at d1
  have hnl : ∀ b ∈ lineBlocks (p ++ (⟨xn', xh', xf', xl'⟩, lv) :: s), b ≠ w4.heap.size := fun b hb e => by subst e; exact hown5.notLine g5 (by decide) hb
  have HNL := Hid.mk' hnl
  have hq : w.heap.size < w4.heap.size := by omega
  have hqa : w.heap.size ≠ w4.heap.size := by omega
  have hqb : w4.heap.size ≠ w.heap.size := by omega
  have hqc : w1.heap.size < w4.heap.size := by have := (hlow w1.heap.size (Or.inl rfl)).2; exact this
  have hqd : w1.heap.size ≠ w4.heap.size := by omega
  have hqe : w4.heap.size ≠ w1.heap.size := by omega
  have hqf : w.heap.size ≠ w1.heap.size := by omega
  have hqg : w1.heap.size ≠ w.heap.size := by omega
  have HB5 := Hid.mk' (HB4.out.trans (hb5.mono (by omega)))
  have HO5 := Hid.mk' hown5
  clear hown5 ht5 hb5 CT hlow g5 hnl hown45 hb45
  cases q with
  | true =>
    go_wp2_with fail
    go_region
    go_wp2
    have HO6 := HO5.out.setOther (a := ⟨w4.heap.size, 1, none⟩) (by simpa [Value.ownBlock] using hqd) HNL.out (.int .i64 xh')
    refine bodyPost_ret (v := .tuple #[.slice (some ⟨w1.heap.size, 0, none⟩) ls.length ls.length, replyV 0 xh', .int .i64 0]) (by simp [results, Try.results19, go_sem, replyV, r0, r1, r2]) rfl ⟨_, rfl, ?_, ?_⟩
    · have K := (HO6.low3 hRw (.int .i64 0) (.int .i64 xh') (.string ⟨#[]⟩)).reads (Nat.le_refl _)
      rw [map_mid p s r, HRS.out] at K
      exact K.drew0
    · exact ((((HB5.out.setCell (by show w.heap.size ≤ w4.heap.size; omega) _).setCell (Nat.le_refl _) _).setCell (Nat.le_refl _) _).setCell (Nat.le_refl _) _).drew
  | false =>
    go_wp2_with fail
    go_region
    go_wp2
    have HO6 := (HO5.out.setOther (a := ⟨w4.heap.size, 0, none⟩) (by simpa [Value.ownBlock] using hqd) HNL.out (.int .i64 10)).setOther (a := ⟨w4.heap.size, 1, none⟩) (by simpa [Value.ownBlock] using hqd) HNL.out (.int .i64 xh')
    refine bodyPost_ret (v := .tuple #[.slice (some ⟨w1.heap.size, 0, none⟩) ls.length ls.length, replyV 10 xh', .int .i64 0]) (by simp [results, Try.results19, go_sem, replyV, r0, r1, r2]) rfl ⟨_, rfl, ?_, ?_⟩
    · have K := (HO6.low3 hRw (.int .i64 10) (.int .i64 xh') (.string ⟨#[]⟩)).reads (Nat.le_refl _)
      rw [map_mid p s r, HRS.out] at K
      exact K.drew0
    · exact (((((HB5.out.setCell (by show w.heap.size ≤ w4.heap.size; omega) _).setCell (by show w.heap.size ≤ w4.heap.size; omega) _).setCell (Nat.le_refl _) _).setCell (Nat.le_refl _) _).setCell (Nat.le_refl _) _).drew

theorem Free_ok (v : Value) (ls : List LockD) (nm : ByteArray) (who : Int) (w : World) (B : Nat) (hv : LocksR w B v ls) (hB : B ≤ w.heap.size) (hs : nm.size ≤ 140737488351232) (hr : refuseL ls nm who = 0) :
    Calls Try.prog 19 #[v, .string nm, .int .i64 who] w fun e w' => ∃ v', e = .returned (.tuple #[v', replyV (freeL ls nm who).2.1 (freeL ls nm who).2.2, .int .i64 0]) ∧ LocksR w' w'.heap.size v' (freeL ls nm who).1 ∧ Below w.heap.size w w' := by
  have hck := (refuse_zero hr).1
  by_cases hat : atL ls nm < ls.length
  · exact Free_found v ls nm who w B hv hB hs hr hck hat
  · exact Free_none v ls nm who w B hv hB hs hr hck hat
end Go.Proofs.Ytkmkocbpclkhhac
