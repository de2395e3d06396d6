/- lock.Take: a lock, or a place in its line. -/
import Derived.Test.YtkmkocbpclkhhacLockAdd
namespace Go.Proofs.Ytkmkocbpclkhhac
open Go.RowKit

/-- The place of a name among locks; their number: there is none. -/
def atL (ls : List LockD) (nm : ByteArray) : Nat := ls.findIdx fun x => eqN x.name nm

/-- The place where a name belongs. -/
def placeL (ls : List LockD) (nm : ByteArray) : Nat := ls.findIdx fun x => gtN x.name nm

theorem atL_found {ls : List LockD} {nm : ByteArray} (h : atL ls nm < ls.length) : ∃ x, ls[atL ls nm]? = some x ∧ eqN x.name nm = true := by
  refine ⟨ls[atL ls nm], List.getElem?_eq_getElem h, ?_⟩
  exact List.findIdx_getElem (p := fun x : LockD => eqN x.name nm) (w := h)

theorem atL_min {ls : List LockD} {nm : ByteArray} (j : Nat) (x : LockD) (hj : j < atL ls nm) (hx : ls[j]? = some x) : eqN x.name nm = false := by
  have := List.not_of_lt_findIdx (p := fun x : LockD => eqN x.name nm) (xs := ls) hj
  obtain ⟨hl, he⟩ := List.getElem?_eq_some_iff.1 hx
  simpa [he] using this

theorem atL_le (ls : List LockD) (nm : ByteArray) : atL ls nm ≤ ls.length := List.findIdx_le_length

theorem atL_none {ls : List LockD} {nm : ByteArray} (h : ¬ atL ls nm < ls.length) (j : Nat) (x : LockD) (hx : ls[j]? = some x) : eqN x.name nm = false :=
  atL_min j x (by have := (List.getElem?_eq_some_iff.1 hx).1; have := atL_le ls nm; omega) hx

theorem placeL_place (ls : List LockD) (nm : ByteArray) : Place ls nm (placeL ls nm) := by
  have hle : placeL ls nm ≤ ls.length := List.findIdx_le_length
  have hmin : ∀ (j : Nat) (x : LockD), j < placeL ls nm → ls[j]? = some x → gtN x.name nm = false := fun j x hj hx => by
    have := List.not_of_lt_findIdx (p := fun x : LockD => gtN x.name nm) (xs := ls) hj
    obtain ⟨hl, he⟩ := List.getElem?_eq_some_iff.1 hx
    simpa [he] using this
  by_cases h : placeL ls nm < ls.length
  · exact Or.inl ⟨h, ⟨ls[placeL ls nm], List.getElem?_eq_getElem h, List.findIdx_getElem (p := fun x : LockD => gtN x.name nm) (w := h)⟩, hmin⟩
  · exact Or.inr ⟨by omega, fun j x hx => hmin j x (by have := (List.getElem?_eq_some_iff.1 hx).1; omega) hx⟩

/-- What Take leaves, and its reply. -/
def takeL (ls : List LockD) (nm : ByteArray) (who : Int) (wait : Bool) : List LockD × Int × Int :=
  if h : atL ls nm < ls.length then
    (ls.set (atL ls nm) (takeX ls[atL ls nm] who wait).1, (takeX ls[atL ls nm] who wait).2.1, (takeX ls[atL ls nm] who wait).2.2)
  else if ls.length = 5 then (ls, 8, 0) else (ls.take (placeL ls nm) ++ ⟨nm, who, 1, []⟩ :: ls.drop (placeL ls nm), 0, 1)

theorem check_each {ls : List LockD} (h : checkL ls = 0) : ls.length ≤ 5 ∧ ∀ (i : Nat) (x : LockD), ls[i]? = some x → formB x = true ∧ 1 ≤ x.fence ∧ x.fence ≤ 1073741824 := by
  unfold checkL at h
  by_cases h5 : 5 < ls.length
  · rw [if_pos h5] at h; cases h
  · rw [if_neg h5] at h
    refine ⟨by omega, ?_⟩
    clear h5
    generalize (⟨#[]⟩ : ByteArray) = p at h
    induction ls generalizing p with
    | nil => intro i x hx; simp at hx
    | cons y t ih =>
      unfold checkFrom at h
      cases hf : formB y with
      | false => rw [hf] at h; simp at h
      | true =>
        rw [hf] at h
        simp only [Bool.true_eq_false, if_false] at h
        by_cases hr : y.fence < 1 ∨ 1073741824 < y.fence
        · rw [if_pos hr] at h; cases h
        · rw [if_neg hr] at h
          by_cases ho : leN y.name p = true
          · rw [if_pos ho] at h; cases h
          · rw [if_neg ho] at h
            intro i x hx
            cases i with
            | zero =>
              have : y = x := by simpa using hx
              subst this
              exact ⟨hf, by omega, by omega⟩
            | succ i => exact ih y.name h i x (by simpa using hx)

theorem form_line {x : LockD} (h : formB x = true) : x.line.length ≤ 3 ∧ 0 ≤ x.holder ∧ x.holder ≤ 9 ∧ lineB x.line x.holder = true ∧ nameB x.name = true := by
  unfold formB at h
  rw [Bool.and_eq_true, Bool.and_eq_true] at h
  obtain ⟨⟨h1, h2⟩, h3⟩ := h
  have h2 := of_decide_eq_true h2
  exact ⟨(lineB_yes h3).1, h2.1, h2.2, h3, h1⟩

theorem map_mid (p s : List (LockD × Value)) (r : LockD × Value) (x : LockD) (v : Value) : (p ++ (x, v) :: s).map (·.1) = ((p ++ r :: s).map (·.1)).set p.length x := by
  simp

/-- The cells of a result that lies in a block of its own. -/
def ReplyAt (w : World) (b : Nat) : Prop := w.heap[b]? = some (.cells #[.int .i64 0, .int .i64 0, .string ⟨#[]⟩] 37 (0, 0))

theorem ReplyAt.cells {w : World} {b : Nat} (h : ReplyAt w b) : w.cell? ⟨b, 0, none⟩ = some (.int .i64 0) ∧ w.cell? ⟨b, 1, none⟩ = some (.int .i64 0) ∧ w.cell? ⟨b, 2, none⟩ = some (.string ⟨#[]⟩) ∧ ∀ j, w.frozen? ⟨b, j, none⟩ = false :=
  ⟨cell_of_row w b 0 _ _ _ h, cell_of_row w b 1 _ _ _ h, cell_of_row w b 2 _ _ _ h, fun j => frozen_of_row w b j _ _ h⟩

theorem ReplyAt.below {w w' : World} {b : Nat} (h : ReplyAt w b) {B : Nat} (hb : Below B w w') (hB : b < B) : ReplyAt w' b := (hb.block b hB).trans h

theorem ReplyAt.lt {w : World} {b : Nat} (h : ReplyAt w b) : b < w.heap.size := lt_of_block h

/-- Three stores below what is owned. -/
theorem OwnL.low3 {w : World} {base : Nat} {v : Value} {rs : List (LockD × Value)} (h : OwnL w base v rs) {b : Nat} (hb : b < base) (x y z : Value) : OwnL (((w.setCell ⟨b, 0, none⟩ x).setCell ⟨b, 1, none⟩ y).setCell ⟨b, 2, none⟩ z) base v rs := by
  have h1 : v.ownBlock ≠ some b := fun e => by have := (h.row.lt b e).1; omega
  have h2 : ∀ c ∈ lineBlocks rs, c ≠ b := fun c hc => by have := (h.lines.lt hc).1; omega
  exact ((h.setOther h1 h2 x).setOther h1 h2 y).setOther h1 h2 z

set_option maxRecDepth 100000 in
set_option maxHeartbeats 1600000 in
theorem Take_bad (v : Value) (ls : List LockD) (nm : ByteArray) (who : Int) (wait : Bool) (w : World) (B : Nat) (hv : LocksR w B v ls) (hB : B ≤ w.heap.size) (hs : nm.size ≤ 140737488351232) (hr : refuseL ls nm who ≠ 0) :
    Calls Try.prog 17 #[v, .string nm, .int .i64 who, .bool wait] w fun e w' => e = .returned (.tuple #[.slice none 0 0, replyV 0 0, .int .i64 (refuseL ls nm who)]) ∧ Below w.heap.size w w' := by
  have hb0 : Below w.heap.size w (w.alloc (.cells #[.int .i64 0, .int .i64 0, .string ⟨#[]⟩] 37)) := (Below.refl _ _).alloc (Nat.le_refl _) _
  have CR := refuse_any v ls nm who _ B (hv.below hb0 hB) (by simp; omega) hs
  obtain ⟨ao, cap, rfl, -⟩ := hv
  obtain ⟨c, hc⟩ : ∃ c, c = refuseL ls nm who := ⟨_, rfl⟩
  rw [← hc] at CR hr ⊢
  clear hc
  have hr2 : (c != 0) = true := by simpa using hr
  clear hr
  go_enter Try.func17, Try.ntmps17
  go_wp2_with fail
  refine CR.mono ?_
  rintro e w1 ⟨rfl, hb1⟩
  have HR1 : ReplyAt w1 w.heap.size := ReplyAt.below (heap_alloc_new w _) hb1 (by simp)
  obtain ⟨r0, r1, r2, rf⟩ := HR1.cells
  have HB := Hid.mk' (hb0.trans (hb1.mono (by simp)))
  clear hb1 HR1 hb0
  go_wp2
  refine bodyPost_ret (v := .tuple #[.slice none 0 0, replyV 0 0, .int .i64 c]) (by simp [results, Try.results17, go_sem, replyV, r0, r1, r2]) rfl ⟨rfl, ?_⟩
  exact ((HB.out.setCell (Nat.le_refl _) _).setCell (Nat.le_refl _) _).setCell (Nat.le_refl _) _

set_option maxRecDepth 100000 in
set_option maxHeartbeats 1600000 in
theorem Take_found (v : Value) (ls : List LockD) (nm : ByteArray) (who : Int) (wait : Bool) (w : World) (B : Nat) (hv : LocksR w B v ls) (hB : B ≤ w.heap.size) (hs : nm.size ≤ 140737488351232) (hr : refuseL ls nm who = 0) (hck : checkL ls = 0) (hat : atL ls nm < ls.length) :
    Calls Try.prog 17 #[v, .string nm, .int .i64 who, .bool wait] w fun e w' => ∃ v', e = .returned (.tuple #[v', replyV (takeL ls nm who wait).2.1 (takeL ls nm who wait).2.2, .int .i64 0]) ∧ LocksR w' w'.heap.size v' (takeL ls nm who wait).1 ∧ Below w.heap.size w w' := by
  have hb0 : Below w.heap.size w (w.alloc (.cells #[.int .i64 0, .int .i64 0, .string ⟨#[]⟩] 37)) := (Below.refl _ _).alloc (Nat.le_refl _) _
  have hv0 := hv.below hb0 hB
  have CR := refuse_any v ls nm who _ B hv0 (by simp; omega) hs
  rw [hr] at CR
  obtain ⟨x, hx, hxe⟩ := atL_found hat
  obtain ⟨hx5, hxc⟩ := check_each hck
  obtain ⟨hxf, hx1, hx2⟩ := hxc _ x hx
  obtain ⟨hx3, -⟩ := form_line hxf
  have hxm : ∀ (j : Nat) (y : LockD), j < atL ls nm → ls[j]? = some y → eqN y.name nm = false := fun j y hj hy => atL_min j y hj hy
  obtain ⟨i, hi⟩ : ∃ i, i = atL ls nm := ⟨_, rfl⟩
  obtain ⟨x', c, m, htx⟩ : ∃ x' c m, takeX x who wait = (x', c, m) := ⟨_, _, _, rfl⟩
  have hres : takeL ls nm who wait = (ls.set i x', c, m) := by
    have e : ls[atL ls nm] = x := (List.getElem?_eq_some_iff.1 hx).2
    unfold takeL
    rw [dif_pos hat]
    rw [e, htx, hi]
  rw [hres]
  rw [← hi] at hx hxm hat
  have HV0 := Hid.mk' hv0
  have HX := Hid.mk' hx
  have HM := Hid.mk' hxm
  have HT := Hid.mk' htx
  have hll := hv.len
  obtain ⟨ao, cap, rfl, -⟩ := hv
  clear hres hi hr hck hx hxm htx hxc hv0 hxf
  simp only
  go_enter Try.func17, Try.ntmps17
  go_wp2_with fail
  refine CR.mono ?_
  rintro e w1 ⟨rfl, hb1⟩
  have HR1 := Hid.mk' (ReplyAt.below (heap_alloc_new w _) hb1 (by simp))
  have hv1 := HV0.out.below hb1 (by simp; omega)
  have HB1 := Hid.mk' (hb0.trans (hb1.mono (by simp)))
  have hz1 : B ≤ w1.heap.size := by have := HB1.out.size; omega
  clear hb1 hb0 CR HV0
  go_wp2_with fail
  refine (copy_any _ ls w1 B hv1 hz1).mono ?_
  rintro e w2 ⟨rfl, rs, hrs, hown2, hb2⟩
  have HR2 := Hid.mk' (HR1.out.below hb2 HR1.out.lt)
  have HB2 := Hid.mk' (HB1.out.trans (hb2.mono HB1.out.size))
  have HRS := Hid.mk' hrs
  have HO2 := Hid.mk' hown2
  clear hb2 hown2 hrs hv1
  go_wp2_with fail
  refine (named_any nm _).mono ?_
  rintro e w3 ⟨rfl, rfl⟩
  have hb3 : Below w2.heap.size w2 (w2.alloc (.cells #[.string nm] 9)) := (Below.refl _ _).alloc (Nat.le_refl _) _
  have hrd : LocksR (w2.alloc (.cells #[.string nm] 9)) w2.heap.size (.slice (some ⟨w1.heap.size, 0, none⟩) ls.length ls.length) ls := by
    have := (HO2.out.reads (Nat.le_refl _)).below hb3 (Nat.le_refl _)
    rwa [HRS.out] at this
  go_wp2_with fail
  refine (indexNamed_found _ ls nm w2.heap.size i x _ _ hrd (by simp) (by simp) (by simp) HX.out hxe HM.out).mono ?_
  rintro e w4 ⟨rfl, hb4⟩
  have hb24 : Below w2.heap.size w2 w4 := hb3.trans (hb4.mono (by simp))
  have HR4 := Hid.mk' (HR2.out.below hb24 HR2.out.lt)
  have HB4 := Hid.mk' (HB2.out.trans (hb24.mono HB2.out.size))
  have hown4 := HO2.out.below hb24 (Nat.le_refl _)
  obtain ⟨r, hr, hrx⟩ : ∃ r, rs[i]? = some r ∧ r.1 = x := by
    have := HX.out
    rw [← HRS.out, List.getElem?_map] at this
    obtain ⟨r, h1, h2⟩ := Option.map_eq_some_iff.1 this
    exact ⟨r, h1, h2⟩
  obtain ⟨p, s, hps, hpl⟩ := split_at hr
  subst hps
  subst hrx
  subst hpl
  have CT := take_any w1.heap.size ls.length ls.length p s r who wait w4 w1.heap.size hown4 (by omega) hx2 hx3
  rw [HT.out] at CT
  simp only at CT
  have hz4 : w1.heap.size ≤ w4.heap.size := by have := hb24.size; have := (HO2.out.row.lt w1.heap.size rfl).2; omega
  have hRw : w.heap.size < w1.heap.size := HR1.out.lt
  clear hb4 hb3 hrd hb24 hr HM
  go_wp2_with fail
  refine CT.mono ?_
  rintro e w5 ⟨rfl, lv, hown5, ht5⟩
  have hlow : ∀ k, OwnB w1.heap.size (p ++ r :: s) k → w1.heap.size ≤ k := fun k hk => (hown4.ownB k hk).1
  have hb5 : Below w1.heap.size w4 w5 := ht5.below hz4 hlow
  have HR5 := Hid.mk' (HR4.out.below hb5 hRw)
  obtain ⟨r0, r1, r2, rf⟩ := HR5.out.cells
  have hq : w.heap.size < w5.heap.size := HR5.out.lt
  have hq2 : w.heap.size ≠ w5.heap.size := by omega
  have hq3 : w5.heap.size ≠ w.heap.size := by omega
  have HB5 := Hid.mk' (HB4.out.trans (hb5.mono (by omega)))
  have HO5 := Hid.mk' hown5
  clear hown5 ht5 hb5 hown4 CT hlow
  simp only [replyV]
  go_wp2_with fail
  go_region
  go_wp2
  refine bodyPost_ret (v := .tuple #[.slice (some ⟨w1.heap.size, 0, none⟩) ls.length ls.length, replyV c m, .int .i64 0]) (by simp [results, Try.results17, go_sem, replyV, r0, r1, r2, hq]) rfl ⟨_, rfl, ?_, ?_⟩
  · have K := (HO5.out.low3 hRw (.int .i64 c) (.int .i64 m) (.string ⟨#[]⟩)).reads (Nat.le_refl _)
    rw [map_mid p s r x' lv, HRS.out] at K
    exact (K.below (((Below.refl _ _).alloc (Nat.le_refl _) (.cells #[.int .i64 c, .int .i64 m, .string ⟨#[]⟩] 37)).drew) (Nat.le_refl _)).mono (by simp)
  · exact (((((HB5.out.setCell (Nat.le_refl _) _).setCell (Nat.le_refl _) _).setCell (Nat.le_refl _) _).alloc (by have := HB5.out.size; simpa [World.setCell] using this) _).drew)
set_option maxRecDepth 100000 in
set_option maxHeartbeats 1600000 in
theorem Take_none (v : Value) (ls : List LockD) (nm : ByteArray) (who : Int) (wait : Bool) (w : World) (B : Nat) (hv : LocksR w B v ls) (hB : B ≤ w.heap.size) (hs : nm.size ≤ 140737488351232) (hr : refuseL ls nm who = 0) (hck : checkL ls = 0) (hat : ¬ atL ls nm < ls.length) :
    Calls Try.prog 17 #[v, .string nm, .int .i64 who, .bool wait] w fun e w' => ∃ v', e = .returned (.tuple #[v', replyV (takeL ls nm who wait).2.1 (takeL ls nm who wait).2.2, .int .i64 0]) ∧ LocksR w' w'.heap.size v' (takeL ls nm who wait).1 ∧ Below w.heap.size w w' := by
  have hb0 : Below w.heap.size w (w.alloc (.cells #[.int .i64 0, .int .i64 0, .string ⟨#[]⟩] 37)) := (Below.refl _ _).alloc (Nat.le_refl _) _
  have hv0 := hv.below hb0 hB
  have CR := refuse_any v ls nm who _ B hv0 (by simp; omega) hs
  rw [hr] at CR
  obtain ⟨hx5, -⟩ := check_each hck
  have hxm : ∀ (j : Nat) (y : LockD), ls[j]? = some y → eqN y.name nm = false := fun j y hy => atL_none hat j y hy
  obtain ⟨ls', c, m, htx⟩ : ∃ ls' c m, takeL ls nm who wait = (ls', c, m) := ⟨_, _, _, rfl⟩
  have htx2 : takeL ls nm who wait = (if ls.length = 5 then (ls, 8, 0) else (ls.take (placeL ls nm) ++ ⟨nm, who, 1, []⟩ :: ls.drop (placeL ls nm), 0, 1)) := by unfold takeL; rw [dif_neg hat]
  rw [htx] at htx2 ⊢
  have HV0 := Hid.mk' hv0
  have HM := Hid.mk' hxm
  have HT := Hid.mk' htx2
  have hll := hv.len
  obtain ⟨ao, cap, rfl, -⟩ := hv
  clear hr hck hxm htx htx2 hv0 hat
  simp only
  go_enter Try.func17, Try.ntmps17
  go_wp2_with fail
  refine CR.mono ?_
  rintro e w1 ⟨rfl, hb1⟩
  have HR1 := Hid.mk' (ReplyAt.below (heap_alloc_new w _) hb1 (by simp))
  have hv1 := HV0.out.below hb1 (by simp; omega)
  have HB1 := Hid.mk' (hb0.trans (hb1.mono (by simp)))
  have hz1 : B ≤ w1.heap.size := by have := HB1.out.size; omega
  clear hb1 hb0 CR HV0
  go_wp2_with fail
  refine (copy_any _ ls w1 B hv1 hz1).mono ?_
  rintro e w2 ⟨rfl, rs, hrs, hown2, hb2⟩
  have HR2 := Hid.mk' (HR1.out.below hb2 HR1.out.lt)
  have HB2 := Hid.mk' (HB1.out.trans (hb2.mono HB1.out.size))
  have HRS := Hid.mk' hrs
  have HO2 := Hid.mk' hown2
  clear hb2 hown2 hrs hv1
  go_wp2_with fail
  refine (named_any nm _).mono ?_
  rintro e w3 ⟨rfl, rfl⟩
  have hb3 : Below w2.heap.size w2 (w2.alloc (.cells #[.string nm] 9)) := (Below.refl _ _).alloc (Nat.le_refl _) _
  have hrd : LocksR (w2.alloc (.cells #[.string nm] 9)) w2.heap.size (.slice (some ⟨w1.heap.size, 0, none⟩) ls.length ls.length) ls := by
    have := (HO2.out.reads (Nat.le_refl _)).below hb3 (Nat.le_refl _)
    rwa [HRS.out] at this
  go_wp2_with fail
  refine (indexNamed_none _ ls nm w2.heap.size _ _ hrd (by simp) (by simp) (by simp) HM.out).mono ?_
  rintro e w4 ⟨rfl, hb4⟩
  have hb24 : Below w2.heap.size w2 w4 := hb3.trans (hb4.mono (by simp))
  have HR4 := Hid.mk' (HR2.out.below hb24 HR2.out.lt)
  have HB4 := Hid.mk' (HB2.out.trans (hb24.mono HB2.out.size))
  have hown4 := HO2.out.below hb24 (Nat.le_refl _)
  have hrl : ls.length = rs.length := by rw [← HRS.out, List.length_map]
  have CA : Calls Try.prog 34 #[.slice (some ⟨w1.heap.size, 0, none⟩) ls.length ls.length, .string nm, .int .i64 who] w4 fun e w' => ∃ v' rs', e = .returned (.tuple #[v', replyV c m]) ∧ (∃ ao n cp, v' = .slice ao n cp) ∧ rs'.map (·.1) = ls' ∧ OwnL w' w1.heap.size v' rs' ∧ Below w4.heap.size w4 w' := by
    by_cases h5 : ls.length = 5
    · have e := HT.out
      rw [if_pos h5] at e
      simp only [Prod.mk.injEq] at e
      obtain ⟨rfl, rfl, rfl⟩ := e
      rw [h5] at hown4 ⊢
      refine (add_full w1.heap.size nm who w4).mono ?_
      rintro e w' ⟨rfl, hb'⟩
      exact ⟨_, rs, rfl, ⟨_, _, _, rfl⟩, HRS.out, hown4.below hb' (Nat.le_refl _), hb'⟩
    · have e := HT.out
      rw [if_neg h5] at e
      simp only [Prod.mk.injEq] at e
      obtain ⟨rfl, rfl, rfl⟩ := e
      refine (add_new w1.heap.size ls.length (placeL ls nm) rs nm who w4 w1.heap.size hown4 hrl (by omega) (by rw [HRS.out]; exact placeL_place ls nm) hs).mono ?_
      rintro e w' ⟨v', rfl, ho', hb'⟩
      refine ⟨v', _, rfl, ?_, ?_, ho', hb'⟩
      · obtain ⟨ao, cp, e⟩ := ownsRow_shape ho'.row
        exact ⟨_, _, _, e⟩
      · rw [List.map_append, List.map_cons, List.map_take, List.map_drop, HRS.out]
  have hRw : w.heap.size < w1.heap.size := HR1.out.lt
  have hR4 : w.heap.size < w4.heap.size := HR4.out.lt
  clear hb4 hb3 hrd hb24 HM hown4 hrl
  go_wp2_with fail
  refine CA.mono ?_
  rintro e w5 ⟨v5, rs5, rfl, ⟨vo, vn, vc, rfl⟩, hrs5, hown5, hb5⟩
  have HR5 := Hid.mk' (HR4.out.below hb5 hR4)
  obtain ⟨r0, r1, r2, rf⟩ := HR5.out.cells
  have hq : w.heap.size < w5.heap.size := HR5.out.lt
  have hq2 : w.heap.size ≠ w5.heap.size := by omega
  have hq3 : w5.heap.size ≠ w.heap.size := by omega
  have HB5 := Hid.mk' (HB4.out.trans (hb5.mono HB4.out.size))
  have HO5 := Hid.mk' hown5
  have HRS5 := Hid.mk' hrs5
  clear hown5 hb5 CA hrs5
  simp only [replyV]
  go_wp2_with fail
  go_region
  go_wp2
  refine bodyPost_ret (v := .tuple #[.slice vo vn vc, replyV c m, .int .i64 0]) (by simp [results, Try.results17, go_sem, replyV, r0, r1, r2, hq]) rfl ⟨_, rfl, ?_, ?_⟩
  · have K := (HO5.out.low3 hRw (.int .i64 c) (.int .i64 m) (.string ⟨#[]⟩)).reads (Nat.le_refl _)
    rw [HRS5.out] at K
    exact (K.below (((Below.refl _ _).alloc (Nat.le_refl _) (.cells #[.int .i64 c, .int .i64 m, .string ⟨#[]⟩] 37)).drew) (Nat.le_refl _)).mono (by simp)
  · exact (((((HB5.out.setCell (Nat.le_refl _) _).setCell (Nat.le_refl _) _).setCell (Nat.le_refl _) _).alloc (by have := HB5.out.size; simpa [World.setCell] using this) _).drew)

theorem refuse_zero {ls : List LockD} {nm : ByteArray} {who : Int} (h : refuseL ls nm who = 0) : checkL ls = 0 ∧ nameB nm = true ∧ 1 ≤ who ∧ who ≤ 9 := by
  unfold refuseL at h
  by_cases h0 : checkL ls = 0
  · rw [if_neg (by simpa using h0)] at h
    cases hn : nameB nm with
    | false => rw [hn] at h; simp at h
    | true =>
      rw [hn] at h
      simp only [Bool.true_eq_false, if_false] at h
      by_cases hw : who < 1 ∨ 9 < who
      · rw [if_pos hw] at h; cases h
      · exact ⟨h0, rfl, by omega, by omega⟩
  · rw [if_pos h0] at h
    exact absurd h h0

theorem Take_ok (v : Value) (ls : List LockD) (nm : ByteArray) (who : Int) (wait : Bool) (w : World) (B : Nat) (hv : LocksR w B v ls) (hB : B ≤ w.heap.size) (hs : nm.size ≤ 140737488351232) (hr : refuseL ls nm who = 0) :
    Calls Try.prog 17 #[v, .string nm, .int .i64 who, .bool wait] w fun e w' => ∃ v', e = .returned (.tuple #[v', replyV (takeL ls nm who wait).2.1 (takeL ls nm who wait).2.2, .int .i64 0]) ∧ LocksR w' w'.heap.size v' (takeL ls nm who wait).1 ∧ Below w.heap.size w w' := by
  have hck := (refuse_zero hr).1
  by_cases hat : atL ls nm < ls.length
  · exact Take_found v ls nm who wait w B hv hB hs hr hck hat
  · exact Take_none v ls nm who wait w B hv hB hs hr hck hat
end Go.Proofs.Ytkmkocbpclkhhac
