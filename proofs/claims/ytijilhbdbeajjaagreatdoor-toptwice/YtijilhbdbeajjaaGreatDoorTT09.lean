/- lock.Take: a lock, or a place in its line; lock.Free: a lock, or a place in its line, given up; lock.Gone; The parts of a good lock, and what taking, freeing and leaving keep of it. Plain lists; What holds of each lock when a client is gone; lock.Who; Locks that may be, and what taking, freeing and going keep of them; who has them, or stands in their lines. Plain lists; Plain mathematics of Join; Plain mathematics of Leave. (Written by gen_leave.py.); Plain mathematics of Ready. (Written by gen_ready.py.); Plain mathematics of Keep. (Written by gen_keep.py.); Sessions that may be, and what the calls keep of them; whose sessions there are. Plain lists; Setting keeps pairs such that may be; what is replied may be kept. Plain lists; What an entry does to a state, in plain lists: it stays one that may be, and who has a lock has a session; A row of pairs of the call's own: kept, put anew; pair.place, by slices.IndexFunc with its closure; the document's pairAt; Rows of pairs, put anew one by one (joined by program) -/
import Derived.BigQuiet
import Derived.Laws.Cover1
import Derived.Deep.QuietTactic
import Derived.Deep.DeepCutAuto
import Derived.Deep.RegionWith
import Derived.Test.YtijilhbdbeajjaaGreatDoorTT08
import Derived.Test.YtijilhbdbeajjaaGreatDoorTT02
import Derived.Test.YtijilhbdbeajjaaGreatDoorTT01
import Derived.Test.YtijilhbdbeajjaaGreatDoorTT00
namespace Go.Proofs.YtijilhbdbeajjaaGreatDoor

open Go.RowKit

/-- The place of a name among locks; their number: there is none. -/
def atL (ls : List LockD) (nm : ByteArray) : Nat := ls.findIdx fun x => eqN x.name nm

/-- The place where a name belongs. -/
def placeL (ls : List LockD) (nm : ByteArray) : Nat := ls.findIdx fun x => gtN x.name nm

theorem atL_found {ls : List LockD} {nm : ByteArray} (h : atL ls nm < ls.length) : ∃ x, ls[atL ls nm]? = some x ∧ eqN x.name nm = true := by
  refine ⟨ls[atL ls nm], List.getElem?_eq_getElem h, ?_⟩
  exact List.findIdx_getElem (p := fun x : LockD => eqN x.name nm) (w := h)

theorem atL_min {ls : List LockD} {nm : ByteArray} (j : Nat) (x : LockD) (hj : j < atL ls nm) (hx : ls[j]? = some x) : eqN x.name nm = false := by
  have := List.not_of_lt_findIdx (p := fun x : LockD => eqN x.name nm) (xs := ls) hj
  obtain ⟨hl, he⟩ := List.getElem?_eq_some_iff.1 hx
  simpa [he] using this

theorem atL_le (ls : List LockD) (nm : ByteArray) : atL ls nm ≤ ls.length := List.findIdx_le_length

theorem atL_none {ls : List LockD} {nm : ByteArray} (h : ¬ atL ls nm < ls.length) (j : Nat) (x : LockD) (hx : ls[j]? = some x) : eqN x.name nm = false :=
  atL_min j x (by have := (List.getElem?_eq_some_iff.1 hx).1; have := atL_le ls nm; omega) hx

theorem placeL_place (ls : List LockD) (nm : ByteArray) : Place ls nm (placeL ls nm) := by
  have hle : placeL ls nm ≤ ls.length := List.findIdx_le_length
  have hmin : ∀ (j : Nat) (x : LockD), j < placeL ls nm → ls[j]? = some x → gtN x.name nm = false := fun j x hj hx => by
    have := List.not_of_lt_findIdx (p := fun x : LockD => gtN x.name nm) (xs := ls) hj
    obtain ⟨hl, he⟩ := List.getElem?_eq_some_iff.1 hx
    simpa [he] using this
  by_cases h : placeL ls nm < ls.length
  · exact Or.inl ⟨h, ⟨ls[placeL ls nm], List.getElem?_eq_getElem h, List.findIdx_getElem (p := fun x : LockD => gtN x.name nm) (w := h)⟩, hmin⟩
  · exact Or.inr ⟨by omega, fun j x hx => hmin j x (by have := (List.getElem?_eq_some_iff.1 hx).1; omega) hx⟩

/-- What Take leaves, and its reply. -/
def takeL (ls : List LockD) (nm : ByteArray) (who : Int) (wait : Bool) : List LockD × Int × Int :=
  if h : atL ls nm < ls.length then
    (ls.set (atL ls nm) (takeX ls[atL ls nm] who wait).1, (takeX ls[atL ls nm] who wait).2.1, (takeX ls[atL ls nm] who wait).2.2)
  else if ls.length = 5 then (ls, 8, 0) else (ls.take (placeL ls nm) ++ ⟨nm, who, 1, []⟩ :: ls.drop (placeL ls nm), 0, 1)

theorem check_each {ls : List LockD} (h : checkL ls = 0) : ls.length ≤ 5 ∧ ∀ (i : Nat) (x : LockD), ls[i]? = some x → formB x = true ∧ 1 ≤ x.fence ∧ x.fence ≤ 1073741824 := by
  unfold checkL at h
  by_cases h5 : 5 < ls.length
  · rw [if_pos h5] at h; cases h
  · rw [if_neg h5] at h
    refine ⟨by omega, ?_⟩
    clear h5
    generalize (⟨#[]⟩ : ByteArray) = p at h
    induction ls generalizing p with
    | nil => intro i x hx; simp at hx
    | cons y t ih =>
      unfold checkFrom at h
      cases hf : formB y with
      | false => rw [hf] at h; simp at h
      | true =>
        rw [hf] at h
        simp only [Bool.true_eq_false, if_false] at h
        by_cases hr : y.fence < 1 ∨ 1073741824 < y.fence
        · rw [if_pos hr] at h; cases h
        · rw [if_neg hr] at h
          by_cases ho : leN y.name p = true
          · rw [if_pos ho] at h; cases h
          · rw [if_neg ho] at h
            intro i x hx
            cases i with
            | zero =>
              have : y = x := by simpa using hx
              subst this
              exact ⟨hf, by omega, by omega⟩
            | succ i => exact ih y.name h i x (by simpa using hx)

theorem form_line {x : LockD} (h : formB x = true) : x.line.length ≤ 3 ∧ 0 ≤ x.holder ∧ x.holder ≤ 9 ∧ lineB x.line x.holder = true ∧ nameB x.name = true := by
  unfold formB at h
  rw [Bool.and_eq_true, Bool.and_eq_true] at h
  obtain ⟨⟨h1, h2⟩, h3⟩ := h
  have h2 := of_decide_eq_true h2
  exact ⟨(lineB_yes h3).1, h2.1, h2.2, h3, h1⟩

theorem map_mid (p s : List (LockD × Value)) (r : LockD × Value) (x : LockD) (v : Value) : (p ++ (x, v) :: s).map (·.1) = ((p ++ r :: s).map (·.1)).set p.length x := by
  simp

/-- The cells of a result that lies in a block of its own. -/
def ReplyAt (w : World) (b : Nat) : Prop := w.heap[b]? = some (.cells #[.int .i64 0, .int .i64 0, .string ⟨#[]⟩] 73 (0, 0))

theorem ReplyAt.cells {w : World} {b : Nat} (h : ReplyAt w b) : w.cell? ⟨b, 0, none⟩ = some (.int .i64 0) ∧ w.cell? ⟨b, 1, none⟩ = some (.int .i64 0) ∧ w.cell? ⟨b, 2, none⟩ = some (.string ⟨#[]⟩) ∧ ∀ j, w.frozen? ⟨b, j, none⟩ = false :=
  ⟨cell_of_row w b 0 _ _ _ h, cell_of_row w b 1 _ _ _ h, cell_of_row w b 2 _ _ _ h, fun j => frozen_of_row w b j _ _ h⟩

theorem ReplyAt.below {w w' : World} {b : Nat} (h : ReplyAt w b) {B : Nat} (hb : Below B w w') (hB : b < B) : ReplyAt w' b := (hb.block b hB).trans h

theorem ReplyAt.lt {w : World} {b : Nat} (h : ReplyAt w b) : b < w.heap.size := lt_of_block h

/-- Three stores below what is owned. -/
theorem OwnL.low3 {w : World} {base : Nat} {v : Value} {rs : List (LockD × Value)} (h : OwnL w base v rs) {b : Nat} (hb : b < base) (x y z : Value) : OwnL (((w.setCell ⟨b, 0, none⟩ x).setCell ⟨b, 1, none⟩ y).setCell ⟨b, 2, none⟩ z) base v rs := by
  have h1 : v.ownBlock ≠ some b := fun e => by have := (h.row.lt b e).1; omega
  have h2 : ∀ c ∈ lineBlocks rs, c ≠ b := fun c hc => by have := (h.lines.lt hc).1; omega
  exact ((h.setOther h1 h2 x).setOther h1 h2 y).setOther h1 h2 z

set_option maxRecDepth 100000 in
set_option maxHeartbeats 1600000 in
theorem Take_found (v : Value) (ls : List LockD) (nm : ByteArray) (who : Int) (wait : Bool) (w : World) (B : Nat) (hv : LocksR w B v ls) (hB : B ≤ w.heap.size) (hs : nm.size ≤ 140737488351232) (hr : refuseL ls nm who = 0) (hck : checkL ls = 0) (hat : atL ls nm < ls.length) :
    Calls Tryz.prog 182 #[v, .string nm, .int .i64 who, .bool wait] w fun e w' => ∃ v', e = .returned (.tuple #[v', replyV (takeL ls nm who wait).2.1 (takeL ls nm who wait).2.2, .int .i64 0]) ∧ LocksO w' w.heap.size v' (takeL ls nm who wait).1 ∧ Below w.heap.size w w' := by
  have hb0 : Below w.heap.size w (w.alloc (.cells #[.int .i64 0, .int .i64 0, .string ⟨#[]⟩] 73)) := (Below.refl _ _).alloc (Nat.le_refl _) _
  have hv0 := hv.below hb0 hB
  have CR := refuse_any v ls nm who _ B hv0 (by simp; omega) hs
  rw [hr] at CR
  obtain ⟨x, hx, hxe⟩ := atL_found hat
  obtain ⟨hx5, hxc⟩ := check_each hck
  obtain ⟨hxf, hx1, hx2⟩ := hxc _ x hx
  obtain ⟨hx3, -⟩ := form_line hxf
  have hxm : ∀ (j : Nat) (y : LockD), j < atL ls nm → ls[j]? = some y → eqN y.name nm = false := fun j y hj hy => atL_min j y hj hy
  obtain ⟨i, hi⟩ : ∃ i, i = atL ls nm := ⟨_, rfl⟩
  obtain ⟨x', c, m, htx⟩ : ∃ x' c m, takeX x who wait = (x', c, m) := ⟨_, _, _, rfl⟩
  have hres : takeL ls nm who wait = (ls.set i x', c, m) := by
    have e : ls[atL ls nm] = x := (List.getElem?_eq_some_iff.1 hx).2
    unfold takeL
    rw [dif_pos hat]
    rw [e, htx, hi]
  rw [hres]
  rw [← hi] at hx hxm hat
  have HV0 := Hid.mk' hv0
  have HX := Hid.mk' hx
  have HM := Hid.mk' hxm
  have HT := Hid.mk' htx
  have hll := hv.len
  obtain ⟨ao, cap, rfl, -⟩ := hv
  clear hres hi hr hck hx hxm htx hxc hv0 hxf
  simp only
  go_enter Tryz.func182, Tryz.ntmps182
  go_wp2_with fail
  refine CR.mono ?_
  rintro e w1 ⟨rfl, hb1⟩
  have HR1 := Hid.mk' (ReplyAt.below (heap_alloc_new w _) hb1 (by simp))
  have hv1 := HV0.out.below hb1 (by simp; omega)
  have HB1 := Hid.mk' (hb0.trans (hb1.mono (by simp)))
  have hz1 : B ≤ w1.heap.size := by have := HB1.out.size; omega
  clear hb1 hb0 CR HV0
  go_wp2_with fail
  refine (copy_any _ ls w1 B hv1 hz1).mono ?_
  rintro e w2 ⟨rfl, rs, hrs, hown2, hb2⟩
  have HR2 := Hid.mk' (HR1.out.below hb2 HR1.out.lt)
  have HB2 := Hid.mk' (HB1.out.trans (hb2.mono HB1.out.size))
  have HRS := Hid.mk' hrs
  have HO2 := Hid.mk' hown2
  clear hb2 hown2 hrs hv1
  go_wp2_with fail
  refine (named_any nm _).mono ?_
  rintro e w3 ⟨rfl, rfl⟩
  have hb3 : Below w2.heap.size w2 (w2.alloc (.cells #[.string nm] 9)) := (Below.refl _ _).alloc (Nat.le_refl _) _
  have hrd : LocksR (w2.alloc (.cells #[.string nm] 9)) w2.heap.size (.slice (some ⟨w1.heap.size, 0, none⟩) ls.length ls.length) ls := by
    have := (HO2.out.reads (Nat.le_refl _)).below hb3 (Nat.le_refl _)
    rwa [HRS.out] at this
  go_wp2_with fail
  refine (indexNamed_found _ ls nm w2.heap.size i x _ _ hrd (by simp) (by simp) (by simp) HX.out hxe HM.out).mono ?_
  rintro e w4 ⟨rfl, hb4⟩
  have hb24 : Below w2.heap.size w2 w4 := hb3.trans (hb4.mono (by simp))
  have HR4 := Hid.mk' (HR2.out.below hb24 HR2.out.lt)
  have HB4 := Hid.mk' (HB2.out.trans (hb24.mono HB2.out.size))
  have hown4 := HO2.out.below hb24 (Nat.le_refl _)
  obtain ⟨r, hr, hrx⟩ : ∃ r, rs[i]? = some r ∧ r.1 = x := by
    have := HX.out
    rw [← HRS.out, List.getElem?_map] at this
    obtain ⟨r, h1, h2⟩ := Option.map_eq_some_iff.1 this
    exact ⟨r, h1, h2⟩
  obtain ⟨p, s, hps, hpl⟩ := split_at hr
  subst hps
  subst hrx
  subst hpl
  have CT := take_any w1.heap.size ls.length ls.length p s r who wait w4 w1.heap.size hown4 (by omega) hx2 hx3
  rw [HT.out] at CT
  simp only at CT
  have hz4 : w1.heap.size ≤ w4.heap.size := by have := hb24.size; have := (HO2.out.row.lt w1.heap.size rfl).2; omega
  have hRw : w.heap.size < w1.heap.size := HR1.out.lt
  clear hb4 hb3 hrd hb24 hr HM
  go_wp2_with fail
  refine CT.mono ?_
  rintro e w5 ⟨rfl, lv, hown5, ht5⟩
  have hlow : ∀ k, OwnB w1.heap.size (p ++ r :: s) k → w1.heap.size ≤ k := fun k hk => (hown4.ownB k hk).1
  have hb5 : Below w1.heap.size w4 w5 := ht5.below hz4 hlow
  have HR5 := Hid.mk' (HR4.out.below hb5 hRw)
  obtain ⟨r0, r1, r2, rf⟩ := HR5.out.cells
  have hq : w.heap.size < w5.heap.size := HR5.out.lt
  have hq2 : w.heap.size ≠ w5.heap.size := by omega
  have hq3 : w5.heap.size ≠ w.heap.size := by omega
  have HB5 := Hid.mk' (HB4.out.trans (hb5.mono (by omega)))
  have HO5 := Hid.mk' hown5
  clear hown5 ht5 hb5 hown4 CT hlow
  simp only [replyV]
  go_wp2_with fail
  go_region
  go_wp2
  refine bodyPost_ret (v := .tuple #[.slice (some ⟨w1.heap.size, 0, none⟩) ls.length ls.length, replyV c m, .int .i64 0]) (by simp [results, Tryz.results182, go_sem, replyV, r0, r1, r2, hq]) rfl ⟨_, rfl, ?_, ?_⟩
  · refine ⟨_, ?_, ((HO5.out.low3 hRw (.int .i64 c) (.int .i64 m) (.string ⟨#[]⟩)).below (((Below.refl _ _).alloc (Nat.le_refl _) (.cells #[.int .i64 c, .int .i64 m, .string ⟨#[]⟩] 73)).drew) (Nat.le_refl _)).mono (by omega)⟩
    rw [map_mid p s r x' lv, HRS.out]
  · exact (((((HB5.out.setCell (Nat.le_refl _) _).setCell (Nat.le_refl _) _).setCell (Nat.le_refl _) _).alloc (by have := HB5.out.size; simpa [World.setCell] using this) _).drew)

set_option maxRecDepth 100000 in
set_option maxHeartbeats 1600000 in
theorem Take_none (v : Value) (ls : List LockD) (nm : ByteArray) (who : Int) (wait : Bool) (w : World) (B : Nat) (hv : LocksR w B v ls) (hB : B ≤ w.heap.size) (hs : nm.size ≤ 140737488351232) (hr : refuseL ls nm who = 0) (hck : checkL ls = 0) (hat : ¬ atL ls nm < ls.length) :
    Calls Tryz.prog 182 #[v, .string nm, .int .i64 who, .bool wait] w fun e w' => ∃ v', e = .returned (.tuple #[v', replyV (takeL ls nm who wait).2.1 (takeL ls nm who wait).2.2, .int .i64 0]) ∧ LocksO w' w.heap.size v' (takeL ls nm who wait).1 ∧ Below w.heap.size w w' := by
  have hb0 : Below w.heap.size w (w.alloc (.cells #[.int .i64 0, .int .i64 0, .string ⟨#[]⟩] 73)) := (Below.refl _ _).alloc (Nat.le_refl _) _
  have hv0 := hv.below hb0 hB
  have CR := refuse_any v ls nm who _ B hv0 (by simp; omega) hs
  rw [hr] at CR
  obtain ⟨hx5, -⟩ := check_each hck
  have hxm : ∀ (j : Nat) (y : LockD), ls[j]? = some y → eqN y.name nm = false := fun j y hy => atL_none hat j y hy
  obtain ⟨ls', c, m, htx⟩ : ∃ ls' c m, takeL ls nm who wait = (ls', c, m) := ⟨_, _, _, rfl⟩
  have htx2 : takeL ls nm who wait = (if ls.length = 5 then (ls, 8, 0) else (ls.take (placeL ls nm) ++ ⟨nm, who, 1, []⟩ :: ls.drop (placeL ls nm), 0, 1)) := by unfold takeL; rw [dif_neg hat]
  rw [htx] at htx2 ⊢
  have HV0 := Hid.mk' hv0
  have HM := Hid.mk' hxm
  have HT := Hid.mk' htx2
  have hll := hv.len
  obtain ⟨ao, cap, rfl, -⟩ := hv
  clear hr hck hxm htx htx2 hv0 hat
  simp only
  go_enter Tryz.func182, Tryz.ntmps182
  go_wp2_with fail
  refine CR.mono ?_
  rintro e w1 ⟨rfl, hb1⟩
  have HR1 := Hid.mk' (ReplyAt.below (heap_alloc_new w _) hb1 (by simp))
  have hv1 := HV0.out.below hb1 (by simp; omega)
  have HB1 := Hid.mk' (hb0.trans (hb1.mono (by simp)))
  have hz1 : B ≤ w1.heap.size := by have := HB1.out.size; omega
  clear hb1 hb0 CR HV0
  go_wp2_with fail
  refine (copy_any _ ls w1 B hv1 hz1).mono ?_
  rintro e w2 ⟨rfl, rs, hrs, hown2, hb2⟩
  have HR2 := Hid.mk' (HR1.out.below hb2 HR1.out.lt)
  have HB2 := Hid.mk' (HB1.out.trans (hb2.mono HB1.out.size))
  have HRS := Hid.mk' hrs
  have HO2 := Hid.mk' hown2
  clear hb2 hown2 hrs hv1
  go_wp2_with fail
  refine (named_any nm _).mono ?_
  rintro e w3 ⟨rfl, rfl⟩
  have hb3 : Below w2.heap.size w2 (w2.alloc (.cells #[.string nm] 9)) := (Below.refl _ _).alloc (Nat.le_refl _) _
  have hrd : LocksR (w2.alloc (.cells #[.string nm] 9)) w2.heap.size (.slice (some ⟨w1.heap.size, 0, none⟩) ls.length ls.length) ls := by
    have := (HO2.out.reads (Nat.le_refl _)).below hb3 (Nat.le_refl _)
    rwa [HRS.out] at this
  go_wp2_with fail
  refine (indexNamed_none _ ls nm w2.heap.size _ _ hrd (by simp) (by simp) (by simp) HM.out).mono ?_
  rintro e w4 ⟨rfl, hb4⟩
  have hb24 : Below w2.heap.size w2 w4 := hb3.trans (hb4.mono (by simp))
  have HR4 := Hid.mk' (HR2.out.below hb24 HR2.out.lt)
  have HB4 := Hid.mk' (HB2.out.trans (hb24.mono HB2.out.size))
  have hown4 := HO2.out.below hb24 (Nat.le_refl _)
  have hrl : ls.length = rs.length := by rw [← HRS.out, List.length_map]
  have CA : Calls Tryz.prog 220 #[.slice (some ⟨w1.heap.size, 0, none⟩) ls.length ls.length, .string nm, .int .i64 who] w4 fun e w' => ∃ v' rs', e = .returned (.tuple #[v', replyV c m]) ∧ (∃ ao n cp, v' = .slice ao n cp) ∧ rs'.map (·.1) = ls' ∧ OwnL w' w1.heap.size v' rs' ∧ Below w4.heap.size w4 w' := by
    by_cases h5 : ls.length = 5
    · have e := HT.out
      rw [if_pos h5] at e
      simp only [Prod.mk.injEq] at e
      obtain ⟨rfl, rfl, rfl⟩ := e
      rw [h5] at hown4 ⊢
      refine (add_full w1.heap.size nm who w4).mono ?_
      rintro e w' ⟨rfl, hb'⟩
      exact ⟨_, rs, rfl, ⟨_, _, _, rfl⟩, HRS.out, hown4.below hb' (Nat.le_refl _), hb'⟩
    · have e := HT.out
      rw [if_neg h5] at e
      simp only [Prod.mk.injEq] at e
      obtain ⟨rfl, rfl, rfl⟩ := e
      refine (add_new w1.heap.size ls.length (placeL ls nm) rs nm who w4 w1.heap.size hown4 hrl (by omega) (by rw [HRS.out]; exact placeL_place ls nm) hs).mono ?_
      rintro e w' ⟨v', rfl, ho', hb'⟩
      refine ⟨v', _, rfl, ?_, ?_, ho', hb'⟩
      · obtain ⟨ao, cp, e⟩ := ownsRow_shape ho'.row
        exact ⟨_, _, _, e⟩
      · rw [List.map_append, List.map_cons, List.map_take, List.map_drop, HRS.out]
  have hRw : w.heap.size < w1.heap.size := HR1.out.lt
  have hR4 : w.heap.size < w4.heap.size := HR4.out.lt
  clear hb4 hb3 hrd hb24 HM hown4 hrl
  go_wp2_with fail
  refine CA.mono ?_
  rintro e w5 ⟨v5, rs5, rfl, ⟨vo, vn, vc, rfl⟩, hrs5, hown5, hb5⟩
  have HR5 := Hid.mk' (HR4.out.below hb5 hR4)
  obtain ⟨r0, r1, r2, rf⟩ := HR5.out.cells
  have hq : w.heap.size < w5.heap.size := HR5.out.lt
  have hq2 : w.heap.size ≠ w5.heap.size := by omega
  have hq3 : w5.heap.size ≠ w.heap.size := by omega
  have HB5 := Hid.mk' (HB4.out.trans (hb5.mono HB4.out.size))
  have HO5 := Hid.mk' hown5
  have HRS5 := Hid.mk' hrs5
  clear hown5 hb5 CA hrs5
  simp only [replyV]
  go_wp2_with fail
  go_region
  go_wp2
  refine bodyPost_ret (v := .tuple #[.slice vo vn vc, replyV c m, .int .i64 0]) (by simp [results, Tryz.results182, go_sem, replyV, r0, r1, r2, hq]) rfl ⟨_, rfl, ?_, ?_⟩
  · exact ⟨_, HRS5.out, ((HO5.out.low3 hRw (.int .i64 c) (.int .i64 m) (.string ⟨#[]⟩)).below (((Below.refl _ _).alloc (Nat.le_refl _) (.cells #[.int .i64 c, .int .i64 m, .string ⟨#[]⟩] 73)).drew) (Nat.le_refl _)).mono (by omega)⟩
  · exact (((((HB5.out.setCell (Nat.le_refl _) _).setCell (Nat.le_refl _) _).setCell (Nat.le_refl _) _).alloc (by have := HB5.out.size; simpa [World.setCell] using this) _).drew)

theorem refuse_zero {ls : List LockD} {nm : ByteArray} {who : Int} (h : refuseL ls nm who = 0) : checkL ls = 0 ∧ nameB nm = true ∧ 1 ≤ who ∧ who ≤ 9 := by
  unfold refuseL at h
  by_cases h0 : checkL ls = 0
  · rw [if_neg (by simpa using h0)] at h
    cases hn : nameB nm with
    | false => rw [hn] at h; simp at h
    | true =>
      rw [hn] at h
      simp only [Bool.true_eq_false, if_false] at h
      by_cases hw : who < 1 ∨ 9 < who
      · rw [if_pos hw] at h; cases h
      · exact ⟨h0, rfl, by omega, by omega⟩
  · rw [if_pos h0] at h
    exact absurd h h0

theorem Take_own (v : Value) (ls : List LockD) (nm : ByteArray) (who : Int) (wait : Bool) (w : World) (B : Nat) (hv : LocksR w B v ls) (hB : B ≤ w.heap.size) (hs : nm.size ≤ 140737488351232) (hr : refuseL ls nm who = 0) :
    Calls Tryz.prog 182 #[v, .string nm, .int .i64 who, .bool wait] w fun e w' => ∃ v', e = .returned (.tuple #[v', replyV (takeL ls nm who wait).2.1 (takeL ls nm who wait).2.2, .int .i64 0]) ∧ LocksO w' w.heap.size v' (takeL ls nm who wait).1 ∧ Below w.heap.size w w' := by
  have hck := (refuse_zero hr).1
  by_cases hat : atL ls nm < ls.length
  · exact Take_found v ls nm who wait w B hv hB hs hr hck hat
  · exact Take_none v ls nm who wait w B hv hB hs hr hck hat

end Go.Proofs.YtijilhbdbeajjaaGreatDoor

namespace Go.Proofs.YtijilhbdbeajjaaGreatDoor

open Go.RowKit

/-- Has a client the lock, or a place in its line? -/
def hasX (x : LockD) (who : Int) : Bool := decide (x.holder = who) || hasB who x.line

/-- What Free leaves, and its reply. -/
def freeL (ls : List LockD) (nm : ByteArray) (who : Int) : List LockD × Int × Int :=
  if h : atL ls nm < ls.length then
    (ls.set (atL ls nm) (leaveX ls[atL ls nm] who), (if hasX ls[atL ls nm] who = true then 0 else 10), (leaveX ls[atL ls nm] who).holder)
  else (ls, 6, 0)

theorem freeL_found {ls : List LockD} {nm : ByteArray} {who : Int} {x : LockD} (hat : atL ls nm < ls.length) (hx : ls[atL ls nm]? = some x) : freeL ls nm who = (ls.set (atL ls nm) (leaveX x who), (if hasX x who = true then 0 else 10), (leaveX x who).holder) := by
  have e : ls[atL ls nm] = x := (List.getElem?_eq_some_iff.1 hx).2
  unfold freeL
  rw [dif_pos hat, e]

theorem nodup_line {xs : List Int} {h : Int} (hl : lineB xs h = true) : xs.Nodup := by
  obtain ⟨_, _, h3⟩ := lineB_yes hl
  refine List.pairwise_iff_getElem.2 fun i j hi hj hij e => ?_
  have hx : xs[j]? = some xs[j] := List.getElem?_eq_getElem hj
  have := (h3 j _ hx).2.2.2
  refine hasB_none this i ?_
  rw [List.getElem?_take, if_pos hij, List.getElem?_eq_getElem hi, e]

set_option maxRecDepth 100000 in
set_option maxHeartbeats 1600000 in
theorem Free_none (v : Value) (ls : List LockD) (nm : ByteArray) (who : Int) (w : World) (B : Nat) (hv : LocksR w B v ls) (hB : B ≤ w.heap.size) (hs : nm.size ≤ 140737488351232) (hr : refuseL ls nm who = 0) (hck : checkL ls = 0) (hat : ¬ atL ls nm < ls.length) :
    Calls Tryz.prog 183 #[v, .string nm, .int .i64 who] w fun e w' => ∃ v', e = .returned (.tuple #[v', replyV (freeL ls nm who).2.1 (freeL ls nm who).2.2, .int .i64 0]) ∧ LocksO w' w.heap.size v' (freeL ls nm who).1 ∧ Below w.heap.size w w' := by
  have hb0 : Below w.heap.size w (w.alloc (.cells #[.int .i64 0, .int .i64 0, .string ⟨#[]⟩] 73)) := (Below.refl _ _).alloc (Nat.le_refl _) _
  have hv0 := hv.below hb0 hB
  have CR := refuse_any v ls nm who _ B hv0 (by simp; omega) hs
  rw [hr] at CR
  obtain ⟨hx5, -⟩ := check_each hck
  have hxm : ∀ (j : Nat) (y : LockD), ls[j]? = some y → eqN y.name nm = false := fun j y hy => atL_none hat j y hy
  have htx : freeL ls nm who = (ls, 6, 0) := by unfold freeL; rw [dif_neg hat]
  rw [htx]
  clear htx
  have HV0 := Hid.mk' hv0
  have HM := Hid.mk' hxm
  have hll := hv.len
  obtain ⟨ao, cap, rfl, -⟩ := hv
  clear hr hck hxm hv0 hat
  simp only
  go_enter Tryz.func183, Tryz.ntmps183
  go_wp2_with fail
  refine CR.mono ?_
  rintro e w1 ⟨rfl, hb1⟩
  have HR1 := Hid.mk' (ReplyAt.below (heap_alloc_new w _) hb1 (by simp))
  have hv1 := HV0.out.below hb1 (by simp; omega)
  have HB1 := Hid.mk' (hb0.trans (hb1.mono (by simp)))
  have hz1 : B ≤ w1.heap.size := by have := HB1.out.size; omega
  clear hb1 hb0 CR HV0
  go_wp2_with fail
  refine (copy_any _ ls w1 B hv1 hz1).mono ?_
  rintro e w2 ⟨rfl, rs, hrs, hown2, hb2⟩
  have HR2 := Hid.mk' (HR1.out.below hb2 HR1.out.lt)
  have HB2 := Hid.mk' (HB1.out.trans (hb2.mono HB1.out.size))
  have HRS := Hid.mk' hrs
  have HO2 := Hid.mk' hown2
  clear hb2 hown2 hrs hv1
  go_wp2_with fail
  refine (named_any nm _).mono ?_
  rintro e w3 ⟨rfl, rfl⟩
  have hb3 : Below w2.heap.size w2 (w2.alloc (.cells #[.string nm] 9)) := (Below.refl _ _).alloc (Nat.le_refl _) _
  have hrd : LocksR (w2.alloc (.cells #[.string nm] 9)) w2.heap.size (.slice (some ⟨w1.heap.size, 0, none⟩) ls.length ls.length) ls := by
    have := (HO2.out.reads (Nat.le_refl _)).below hb3 (Nat.le_refl _)
    rwa [HRS.out] at this
  go_wp2_with fail
  refine (indexNamed_none _ ls nm w2.heap.size _ _ hrd (by simp) (by simp) (by simp) HM.out).mono ?_
  rintro e w4 ⟨rfl, hb4⟩
  have hb24 : Below w2.heap.size w2 w4 := hb3.trans (hb4.mono (by simp))
  have HR4 := Hid.mk' (HR2.out.below hb24 HR2.out.lt)
  have HB4 := Hid.mk' (HB2.out.trans (hb24.mono HB2.out.size))
  have hown4 := HO2.out.below hb24 (Nat.le_refl _)
  obtain ⟨r0, r1, r2, rf⟩ := HR4.out.cells
  have hRw : w.heap.size < w1.heap.size := HR1.out.lt
  have HO4 := Hid.mk' hown4
  clear hb4 hb3 hrd hb24 HM hown4
  go_wp2
  refine bodyPost_ret (v := .tuple #[.slice (some ⟨w1.heap.size, 0, none⟩) ls.length ls.length, replyV 6 0, .int .i64 0]) (by simp [results, Tryz.results183, go_sem, replyV, r0, r1, r2]) rfl ⟨_, rfl, ?_, ?_⟩
  · exact ⟨_, HRS.out, (HO4.out.low3 hRw (.int .i64 6) (.int .i64 0) (.string ⟨#[]⟩)).mono (by omega)⟩
  · exact ((HB4.out.setCell (Nat.le_refl _) _).setCell (Nat.le_refl _) _).setCell (Nat.le_refl _) _

set_option maxRecDepth 100000 in
set_option maxHeartbeats 1600000 in
theorem Free_found (v : Value) (ls : List LockD) (nm : ByteArray) (who : Int) (w : World) (B : Nat) (hv : LocksR w B v ls) (hB : B ≤ w.heap.size) (hs : nm.size ≤ 140737488351232) (hr : refuseL ls nm who = 0) (hck : checkL ls = 0) (hat : atL ls nm < ls.length) :
    Calls Tryz.prog 183 #[v, .string nm, .int .i64 who] w fun e w' => ∃ v', e = .returned (.tuple #[v', replyV (freeL ls nm who).2.1 (freeL ls nm who).2.2, .int .i64 0]) ∧ LocksO w' w.heap.size v' (freeL ls nm who).1 ∧ Below w.heap.size w w' := by
  have hb0 : Below w.heap.size w (w.alloc (.cells #[.int .i64 0, .int .i64 0, .string ⟨#[]⟩] 73)) := (Below.refl _ _).alloc (Nat.le_refl _) _
  have hv0 := hv.below hb0 hB
  have CR := refuse_any v ls nm who _ B hv0 (by simp; omega) hs
  rw [hr] at CR
  obtain ⟨x, hx, hxe⟩ := atL_found hat
  obtain ⟨hx5, hxc⟩ := check_each hck
  obtain ⟨hxf, hx1, hx2⟩ := hxc _ x hx
  obtain ⟨hx3, -, -, hxl, -⟩ := form_line hxf
  have hnd := nodup_line hxl
  have hxm : ∀ (j : Nat) (y : LockD), j < atL ls nm → ls[j]? = some y → eqN y.name nm = false := fun j y hj hy => atL_min j y hj hy
  rw [freeL_found hat hx]
  obtain ⟨i, hi⟩ : ∃ i, i = atL ls nm := ⟨_, rfl⟩
  rw [← hi] at hx hxm hat ⊢
  obtain ⟨⟨xn', xh', xf', xl'⟩, hx'⟩ : ∃ x', leaveX x who = x' := ⟨_, rfl⟩
  obtain ⟨q, hq0⟩ : ∃ q, hasX x who = q := ⟨_, rfl⟩
  rw [hx', hq0]
  have HXL := Hid.mk' hx'
  have HQ := Hid.mk' hq0
  clear hx' hq0
  have HV0 := Hid.mk' hv0
  have HX := Hid.mk' hx
  have HM := Hid.mk' hxm
  have HND := Hid.mk' hnd
  have hll := hv.len
  obtain ⟨ao, cap, rfl, -⟩ := hv
  clear hi hr hck hx hxm hxc hv0 hxf hxl hnd
  simp only
  go_enter Tryz.func183, Tryz.ntmps183
  go_wp2_with fail
  refine CR.mono ?_
  rintro e w1 ⟨rfl, hb1⟩
  have HR1 := Hid.mk' (ReplyAt.below (heap_alloc_new w _) hb1 (by simp))
  have hv1 := HV0.out.below hb1 (by simp; omega)
  have HB1 := Hid.mk' (hb0.trans (hb1.mono (by simp)))
  have hz1 : B ≤ w1.heap.size := by have := HB1.out.size; omega
  clear hb1 hb0 CR HV0
  go_wp2_with fail
  refine (copy_any _ ls w1 B hv1 hz1).mono ?_
  rintro e w2 ⟨rfl, rs, hrs, hown2, hb2⟩
  have HR2 := Hid.mk' (HR1.out.below hb2 HR1.out.lt)
  have HB2 := Hid.mk' (HB1.out.trans (hb2.mono HB1.out.size))
  have HRS := Hid.mk' hrs
  have HO2 := Hid.mk' hown2
  clear hb2 hown2 hrs hv1
  go_wp2_with fail
  refine (named_any nm _).mono ?_
  rintro e w3 ⟨rfl, rfl⟩
  have hb3 : Below w2.heap.size w2 (w2.alloc (.cells #[.string nm] 9)) := (Below.refl _ _).alloc (Nat.le_refl _) _
  have hrd : LocksR (w2.alloc (.cells #[.string nm] 9)) w2.heap.size (.slice (some ⟨w1.heap.size, 0, none⟩) ls.length ls.length) ls := by
    have := (HO2.out.reads (Nat.le_refl _)).below hb3 (Nat.le_refl _)
    rwa [HRS.out] at this
  go_wp2_with fail
  refine (indexNamed_found _ ls nm w2.heap.size i x _ _ hrd (by simp) (by simp) (by simp) HX.out hxe HM.out).mono ?_
  rintro e w4 ⟨rfl, hb4⟩
  have hb24 : Below w2.heap.size w2 w4 := hb3.trans (hb4.mono (by simp))
  have HR4 := Hid.mk' (HR2.out.below hb24 HR2.out.lt)
  have HB4 := Hid.mk' (HB2.out.trans (hb24.mono HB2.out.size))
  have hown4 := HO2.out.below hb24 (Nat.le_refl _)
  obtain ⟨r, hr, hrx⟩ : ∃ r, rs[i]? = some r ∧ r.1 = x := by
    have := HX.out
    rw [← HRS.out, List.getElem?_map] at this
    obtain ⟨r, h1, h2⟩ := Option.map_eq_some_iff.1 this
    exact ⟨r, h1, h2⟩
  obtain ⟨p, s, hps, hpl⟩ := split_at hr
  subst hps
  subst hrx
  subst hpl
  have CT := fun w' h => leave_any w1.heap.size ls.length ls.length p s r who w' w1.heap.size h (by omega) hx2 HND.out
  have hz4 : w1.heap.size ≤ w4.heap.size := by have := hb24.size; have := (HO2.out.row.lt w1.heap.size rfl).2; omega
  have hRw : w.heap.size < w1.heap.size := HR1.out.lt
  rw [HXL.out] at CT
  have hq1 : (decide (r.1.holder = who) || hasB who r.1.line) = q := HQ.out
  rw [hq1] at CT
  have hb45 : Below w4.heap.size w4 (w4.alloc (.cells #[.int .i64 0, .int .i64 0, .string ⟨#[]⟩] 73)) := (Below.refl _ _).alloc (Nat.le_refl _) _
  have hown45 := hown4.below hb45 (Nat.le_refl _)
  have hlow : ∀ k, OwnB w1.heap.size (p ++ r :: s) k → w1.heap.size ≤ k ∧ k < w4.heap.size := fun k hk => hown4.ownB k hk
  clear hb4 hb3 hrd hb24 hr HM hq1 hown4
  go_wp2_with fail
  refine (CT _ hown45).mono ?_
  rintro e w5 ⟨rfl, lv, hown5, ht5⟩
  have hb5 : Below w1.heap.size w4 w5 := (hb45.mono hz4).trans (ht5.below (by simp; omega) (fun k hk => (hlow k hk).1))
  have g5 : w5.heap[w4.heap.size]? = some (.cells #[.int .i64 0, .int .i64 0, .string ⟨#[]⟩] 73 (0, 0)) := (ht5.block _ (by simp) (fun hk => by have := (hlow _ hk).2; omega)).trans (heap_alloc_new w4 _)
  have hz45 : w4.heap.size < w5.heap.size := lt_of_block g5
  have HR5 := Hid.mk' (HR4.out.below hb5 hRw)
  obtain ⟨r0, r1, r2, rf⟩ := HR5.out.cells
  obtain ⟨t0, t1, t2, tf⟩ := ReplyAt.cells (show ReplyAt w5 w4.heap.size from g5)
  have d1 := hown5.cellAt 1 (by omega)
  simp only [lockCells, List.getElem?_cons_zero, List.getElem?_cons_succ] at d1
  have hnl : ∀ b ∈ lineBlocks (p ++ (⟨xn', xh', xf', xl'⟩, lv) :: s), b ≠ w4.heap.size := fun b hb e => by subst e; exact hown5.notLine g5 (by decide) hb
  have HNL := Hid.mk' hnl
  have hq : w.heap.size < w4.heap.size := by omega
  have hqa : w.heap.size ≠ w4.heap.size := by omega
  have hqb : w4.heap.size ≠ w.heap.size := by omega
  have hqc : w1.heap.size < w4.heap.size := by have := (hlow w1.heap.size (Or.inl rfl)).2; exact this
  have hqd : w1.heap.size ≠ w4.heap.size := by omega
  have hqe : w4.heap.size ≠ w1.heap.size := by omega
  have hqf : w.heap.size ≠ w1.heap.size := by omega
  have hqg : w1.heap.size ≠ w.heap.size := by omega
  have HB5 := Hid.mk' (HB4.out.trans (hb5.mono (by omega)))
  have HO5 := Hid.mk' hown5
  clear hown5 ht5 hb5 CT hlow g5 hnl hown45 hb45
  cases q with
  | true =>
    go_wp2_with fail
    go_region
    go_wp2
    have HO6 := HO5.out.setOther (a := ⟨w4.heap.size, 1, none⟩) (by simpa [Value.ownBlock] using hqd) HNL.out (.int .i64 xh')
    refine bodyPost_ret (v := .tuple #[.slice (some ⟨w1.heap.size, 0, none⟩) ls.length ls.length, replyV 0 xh', .int .i64 0]) (by simp [results, Tryz.results183, go_sem, replyV, r0, r1, r2]) rfl ⟨_, rfl, ?_, ?_⟩
    · refine ⟨_, ?_, ((HO6.low3 hRw (.int .i64 0) (.int .i64 xh') (.string ⟨#[]⟩)).below ((Below.refl _ _).drew) (Nat.le_refl _)).mono (by omega)⟩
      rw [map_mid p s r, HRS.out]
    · exact ((((HB5.out.setCell (by show w.heap.size ≤ w4.heap.size; omega) _).setCell (Nat.le_refl _) _).setCell (Nat.le_refl _) _).setCell (Nat.le_refl _) _).drew
  | false =>
    go_wp2_with fail
    go_region
    go_wp2
    have HO6 := (HO5.out.setOther (a := ⟨w4.heap.size, 0, none⟩) (by simpa [Value.ownBlock] using hqd) HNL.out (.int .i64 10)).setOther (a := ⟨w4.heap.size, 1, none⟩) (by simpa [Value.ownBlock] using hqd) HNL.out (.int .i64 xh')
    refine bodyPost_ret (v := .tuple #[.slice (some ⟨w1.heap.size, 0, none⟩) ls.length ls.length, replyV 10 xh', .int .i64 0]) (by simp [results, Tryz.results183, go_sem, replyV, r0, r1, r2]) rfl ⟨_, rfl, ?_, ?_⟩
    · refine ⟨_, ?_, ((HO6.low3 hRw (.int .i64 10) (.int .i64 xh') (.string ⟨#[]⟩)).below ((Below.refl _ _).drew) (Nat.le_refl _)).mono (by omega)⟩
      rw [map_mid p s r, HRS.out]
    · exact (((((HB5.out.setCell (by show w.heap.size ≤ w4.heap.size; omega) _).setCell (by show w.heap.size ≤ w4.heap.size; omega) _).setCell (Nat.le_refl _) _).setCell (Nat.le_refl _) _).setCell (Nat.le_refl _) _).drew

theorem Free_own (v : Value) (ls : List LockD) (nm : ByteArray) (who : Int) (w : World) (B : Nat) (hv : LocksR w B v ls) (hB : B ≤ w.heap.size) (hs : nm.size ≤ 140737488351232) (hr : refuseL ls nm who = 0) :
    Calls Tryz.prog 183 #[v, .string nm, .int .i64 who] w fun e w' => ∃ v', e = .returned (.tuple #[v', replyV (freeL ls nm who).2.1 (freeL ls nm who).2.2, .int .i64 0]) ∧ LocksO w' w.heap.size v' (freeL ls nm who).1 ∧ Below w.heap.size w w' := by
  have hck := (refuse_zero hr).1
  by_cases hat : atL ls nm < ls.length
  · exact Free_found v ls nm who w B hv hB hs hr hck hat
  · exact Free_none v ls nm who w B hv hB hs hr hck hat

end Go.Proofs.YtijilhbdbeajjaaGreatDoor

namespace Go.Proofs.YtijilhbdbeajjaaGreatDoor

open Go.RowKit

/-- What Gone leaves. -/
def goneL (ls : List LockD) (who : Int) : List LockD := ls.map (leaveX · who)

/-- What Gone refuses. -/
def goneE (ls : List LockD) (who : Int) : Int := if checkL ls = 0 then (if who < 1 ∨ 9 < who then 2 else 0) else checkL ls

theorem goneE_zero {ls : List LockD} {who : Int} (h : goneE ls who = 0) : checkL ls = 0 ∧ 1 ≤ who ∧ who ≤ 9 := by
  unfold goneE at h
  by_cases h0 : checkL ls = 0
  · rw [if_pos h0] at h
    by_cases hw : who < 1 ∨ 9 < who
    · rw [if_pos hw] at h; cases h
    · exact ⟨h0, by omega, by omega⟩
  · rw [if_neg h0] at h; exact absurd h h0

/-- The locks that are done, and those that are not. -/
def mixL (ls : List LockD) (who : Int) (k : Nat) : List LockD := (goneL ls who).take k ++ ls.drop k

theorem mixL_zero (ls : List LockD) (who : Int) : mixL ls who 0 = ls := by simp [mixL]

theorem mixL_end (ls : List LockD) (who : Int) : mixL ls who ls.length = goneL ls who := by
  unfold mixL
  rw [List.drop_length, List.append_nil, List.take_of_length_le (by simp [goneL])]

theorem mixL_at {ls : List LockD} {who : Int} {k : Nat} {x : LockD} (h : ls[k]? = some x) : (mixL ls who k)[k]? = some x := by
  have hk := (List.getElem?_eq_some_iff.1 h).1
  unfold mixL
  rw [List.getElem?_append_right (by simp [goneL]; omega)]
  have : k - ((goneL ls who).take k).length = 0 := by simp [goneL]; omega
  rw [this, List.getElem?_drop]
  simpa using h

theorem mixL_step {ls : List LockD} {who : Int} {k : Nat} {x : LockD} (h : ls[k]? = some x) : (mixL ls who k).set k (leaveX x who) = mixL ls who (k + 1) := by
  obtain ⟨hk, he⟩ := List.getElem?_eq_some_iff.1 h
  have hg : k < (goneL ls who).length := by simpa [goneL] using hk
  have hl : ((goneL ls who).take k).length = k := by rw [List.length_take]; omega
  have hgk : (goneL ls who)[k] = leaveX x who := by simp [goneL, he]
  unfold mixL
  have hd : ls.drop k = ls[k] :: ls.drop (k + 1) := List.drop_eq_getElem_cons hk
  rw [hd, List.take_succ_eq_append_getElem hg, hgk, List.set_append_right _ _ (by omega), hl, Nat.sub_self, List.set_cons_zero, List.append_assoc]
  rfl

set_option maxRecDepth 100000 in
set_option maxHeartbeats 1600000 in
theorem Gone_own (v : Value) (ls : List LockD) (who : Int) (w : World) (B : Nat) (hv : LocksR w B v ls) (hB : B ≤ w.heap.size) (hr : goneE ls who = 0) :
    Calls Tryz.prog 95 #[v, .int .i64 who] w fun e w' => ∃ v', e = .returned (.tuple #[v', .int .i64 0]) ∧ LocksO w' w.heap.size v' (goneL ls who) ∧ Below w.heap.size w w' := by
  obtain ⟨hck, hw1, hw2⟩ := goneE_zero hr
  have CR := check_any v ls w B hv hB
  rw [hck] at CR
  obtain ⟨hx5, hxc⟩ := check_each hck
  have HC := Hid.mk' hxc
  have HV := Hid.mk' hv
  have hll := hv.len
  obtain ⟨ao, cap, rfl, -⟩ := hv
  clear hr hck hxc
  go_enter Tryz.func95, Tryz.ntmps95
  go_wp2_with fail
  refine CR.mono ?_
  rintro e w1 ⟨rfl, hb1⟩
  go_wp2_with fail
  refine (isClient_yes who _ hw1 hw2).mono ?_
  rintro e w1 ⟨rfl, rfl⟩
  have hv1 := HV.out.below hb1 hB
  have HB1 := Hid.mk' hb1
  have hz1 : B ≤ w1.heap.size := by have := hb1.size; omega
  have hzw : w.heap.size ≤ w1.heap.size := hb1.size
  clear hb1 CR HV
  go_wp2_with fail
  refine (copy_any _ ls w1 B hv1 hz1).mono ?_
  rintro e w2 ⟨rfl, rs, hrs, hown2, hb2⟩
  have HB2 := Hid.mk' (HB1.out.trans (hb2.mono HB1.out.size))
  have HO2 : Hid (∃ rs, rs.map (·.1) = mixL ls who 0 ∧ OwnL w2 w1.heap.size (.slice (some ⟨w1.heap.size, 0, none⟩) ls.length ls.length) rs) := ⟨rs, by rw [hrs, mixL_zero], hown2⟩
  have hz2 : w1.heap.size < w2.heap.size := (hown2.row.lt w1.heap.size rfl).2
  clear hb2 hown2 hrs hv1
  go_wp2
  go_loopw [21] (fun i wr => ∃ (k : Nat) (rs : List (LockD × Value)), k ≤ ls.length ∧ i = .int .i64 k ∧ rs.map (·.1) = mixL ls who k ∧ OwnL wr w1.heap.size (.slice (some ⟨w1.heap.size, 0, none⟩) ls.length ls.length) rs ∧ Below w.heap.size w wr)
    (fun i _ => ls.length - (intOf i).toNat)
  case atStart =>
    obtain ⟨rs, h1, h2⟩ := HO2.out
    exact ⟨0, rs, Nat.zero_le _, rfl, h1, h2, HB2.out⟩
  case round =>
    rename_i iv wr
    obtain ⟨k, rs, hk, rfl, hrs, hown, hb⟩ := hrel
    by_cases hlt : k < ls.length
    · obtain ⟨x, hx⟩ : ∃ x, ls[k]? = some x := ⟨_, List.getElem?_eq_getElem hlt⟩
      obtain ⟨hxf, hx1, hx2⟩ := HC.out k x hx
      have hnd := nodup_line (form_line hxf).2.2.2.1
      have hm := mixL_at (who := who) hx
      have HS := Hid.mk' (mixL_step (who := who) hx)
      rw [← hrs, List.getElem?_map] at hm
      obtain ⟨r, hr, hrx⟩ := Option.map_eq_some_iff.1 hm
      obtain ⟨p, s, hps, hpl⟩ := split_at hr
      subst hps
      subst hrx
      subst hpl
      have CL := leave_any w1.heap.size ls.length ls.length p s r who wr w1.heap.size hown (by omega) hx2 hnd
      have HRS := Hid.mk' hrs
      have HBK := Hid.mk' hb
      have HW := Hid.mk' hown
      clear hm hr hx hxf hx1 hx2 hnd hrs hb hown HO2
      go_wp2_with fail
      refine CL.mono ?_
      rintro e w5 ⟨rfl, lv, hown5, ht5⟩
      have hb5 : Below w1.heap.size wr w5 := ht5.below (by have := (HW.out.row.lt w1.heap.size rfl).2; omega) (fun k hk => (HW.out.ownB k hk).1)
      have HF := Hid.mk' (⟨hown5, HBK.out.trans (hb5.mono hzw)⟩ : _ ∧ _)
      clear hown5 ht5 hb5 CL
      go_wp2
      go_roundw
      case rel =>
        refine ⟨p.length + 1, _, by omega, by go_num, ?_, HF.out.1, HF.out.2⟩
        rw [map_mid p s r, HRS.out]
        exact HS.out
      case measure => simp [intOf]; omega
    · have hkl : k = ls.length := by omega
      subst hkl
      have HF := Hid.mk' (⟨hown.mono hzw, hrs, hb⟩ : _ ∧ _ ∧ _)
      clear hown hrs hb HO2
      go_wp2
      refine bodyPost_ret (v := .tuple #[.slice (some ⟨w1.heap.size, 0, none⟩) ls.length ls.length, .int .i64 0]) (by simp [results, Tryz.results95, go_sem]) rfl ?_
      refine ⟨_, rfl, ⟨_, ?_, HF.out.1⟩, HF.out.2.2⟩
      rw [HF.out.2.1, mixL_end]

end Go.Proofs.YtijilhbdbeajjaaGreatDoor

namespace Go.Proofs.YtijilhbdbeajjaaGreatDoor

open Go.RowKit

/-- The parts of a good line. -/
structure LineOk (xs : List Int) (h : Int) : Prop where
  len : xs.length ≤ 3
  free : h = 0 → xs = []
  each : ∀ x ∈ xs, 1 ≤ x ∧ x ≤ 9 ∧ x ≠ h
  nodup : xs.Nodup

theorem LineOk.mk' {xs : List Int} {h : Int} (hl : lineB xs h = true) : LineOk xs h := by
  obtain ⟨h1, h2, h3⟩ := lineB_yes hl
  refine ⟨h1, fun h0 => ?_, fun x hx => ?_, nodup_line hl⟩
  · cases xs with
    | nil => rfl
    | cons a t => exact absurd ⟨h0, by simp⟩ h2
  · obtain ⟨i, hi⟩ := List.getElem?_of_mem hx
    have := h3 i x hi
    exact ⟨this.1, this.2.1, this.2.2.1⟩

theorem LineOk.line {xs : List Int} {h : Int} (k : LineOk xs h) : lineB xs h = true := by
  cases hl : lineB xs h with
  | true => rfl
  | false =>
    obtain ⟨i, x, hx, hb⟩ := lineB_no hl k.len (fun hh => by rw [k.free hh.1] at hh; simp at hh)
    have hm := List.mem_of_getElem? hx
    have := k.each x hm
    rcases hb with hb | hb | hb | hb
    · omega
    · omega
    · exact absurd hb this.2.2
    · exfalso
      obtain ⟨j, hj, -⟩ := hasB_first hb
      obtain ⟨hi, he⟩ := List.getElem?_eq_some_iff.1 hx
      have hji : j < i := by
        have := (List.getElem?_eq_some_iff.1 hj).1
        rw [List.length_take] at this
        omega
      rw [List.getElem?_take, if_pos hji] at hj
      obtain ⟨hj', he'⟩ := List.getElem?_eq_some_iff.1 hj
      exact (List.pairwise_iff_getElem.1 k.nodup j i hj' hi hji) (by rw [he, he'])

/-- The parts of a good lock. -/
structure LockOk (x : LockD) : Prop where
  name : nameB x.name = true
  low : 0 ≤ x.holder
  high : x.holder ≤ 9
  line : LineOk x.line x.holder

theorem LockOk.mk' {x : LockD} (h : formB x = true) : LockOk x := by
  obtain ⟨_, h1, h2, h3, h4⟩ := form_line h
  exact ⟨h4, h1, h2, LineOk.mk' h3⟩

theorem LockOk.form {x : LockD} (h : LockOk x) : formB x = true := by
  unfold formB
  rw [h.name, h.line.line, decide_eq_true (p := 0 ≤ x.holder ∧ x.holder ≤ 9) ⟨h.low, h.high⟩]
  rfl

theorem LockOk.giveUp {x : LockD} (h : LockOk x) : LockOk (giveUpX x) := by
  obtain ⟨xn, xh, xf, xl⟩ := x
  have hl := h.line
  simp only at hl
  cases xl with
  | nil => exact ⟨h.name, by simp [giveUpX], by simp [giveUpX], ⟨by simp [giveUpX], fun _ => by simp [giveUpX], by simp [giveUpX], by simp [giveUpX]⟩⟩
  | cons a t =>
    have ha := hl.each a (by simp)
    have hn := List.nodup_cons.1 hl.nodup
    by_cases hm : xf = 1073741824
    · have e : giveUpX ⟨xn, xh, xf, a :: t⟩ = ⟨xn, 0, xf, []⟩ := by simp [giveUpX, hm]
      rw [e]
      exact ⟨h.name, by simp, by simp, ⟨by simp, fun _ => rfl, by simp, by simp⟩⟩
    · have e : giveUpX ⟨xn, xh, xf, a :: t⟩ = ⟨xn, a, xf + 1, t⟩ := by simp [giveUpX, hm]
      rw [e]
      refine ⟨h.name, by simp only; omega, by simp only; omega, ⟨by have := hl.len; simp at this ⊢; omega, fun h0 => by simp only at h0; omega, fun y hy => ?_, hn.2⟩⟩
      have := hl.each y (by simp [hy])
      exact ⟨this.1, this.2.1, fun e => hn.1 (by simp only at e; rw [← e]; exact hy)⟩

theorem LockOk.leave {x : LockD} (h : LockOk x) (who : Int) : LockOk (leaveX x who) := by
  by_cases hw : x.holder = who
  · rw [leaveX_holder hw]; exact h.giveUp
  · have e : leaveX x who = { x with line := x.line.filter (· != who) } := by simp [leaveX, hw]
    rw [e]
    refine ⟨h.name, h.low, h.high, ⟨Nat.le_trans (List.length_filter_le _ _) h.line.len, fun h0 => ?_, fun y hy => h.line.each y (List.mem_filter.1 hy).1, h.line.nodup.filter _⟩⟩
    simp only at h0 ⊢
    rw [h.line.free h0]
    rfl

theorem LockOk.take {x : LockD} (h : LockOk x) {who : Int} (w1 : 1 ≤ who) (w2 : who ≤ 9) (wait : Bool) : LockOk (takeX x who wait).1 := by
  unfold takeX
  split
  · exact h
  · rename_i hw
    split
    · unfold meetX
      split
      · rename_i hq
        split
        · exact h
        · rename_i h3
          have hl := h.line.len
          refine ⟨h.name, h.low, h.high, ⟨by simp; omega, fun h0 => by simp only at h0; contradiction, fun y hy => ?_, ?_⟩⟩
          · rcases List.mem_append.1 hy with hy | hy
            · exact h.line.each y hy
            · have : y = who := by simpa using hy
              subst this
              exact ⟨w1, w2, fun e => hw e.symm⟩
          · refine List.nodup_append.2 ⟨h.line.nodup, by simp, fun a ha b hb => ?_⟩
            have : b = who := by simpa using hb
            subst this
            intro e
            subst e
            obtain ⟨j, hj⟩ := List.getElem?_of_mem ha
            exact hasB_none hq.2 j hj
      · exact h
    · rename_i h0
      have h0' : x.holder = 0 := by simpa using h0
      split
      · exact h
      · refine ⟨h.name, by simp only; omega, by simp only; omega, ⟨h.line.len, fun _ => h.line.free h0', fun y hy => ?_, h.line.nodup⟩⟩
        simp only at hy
        rw [h.line.free h0'] at hy
        cases hy

theorem giveUpX_name (x : LockD) : (giveUpX x).name = x.name ∧ x.fence ≤ (giveUpX x).fence ∧ (giveUpX x).fence ≤ x.fence + 1 := by
  obtain ⟨xn, xh, xf, xl⟩ := x
  cases xl with
  | nil => simp [giveUpX]; omega
  | cons a t =>
    by_cases h : xf = 1073741824
    · simp [giveUpX, h]
    · simp [giveUpX, h]; omega

theorem leaveX_name (x : LockD) (who : Int) : (leaveX x who).name = x.name ∧ x.fence ≤ (leaveX x who).fence ∧ (leaveX x who).fence ≤ x.fence + 1 := by
  by_cases hw : x.holder = who
  · rw [leaveX_holder hw]; exact giveUpX_name x
  · simp [leaveX, hw]; omega

theorem takeX_name (x : LockD) (who : Int) (wait : Bool) : (takeX x who wait).1.name = x.name ∧ x.fence ≤ (takeX x who wait).1.fence ∧ (takeX x who wait).1.fence ≤ x.fence + 1 := by
  unfold takeX meetX
  repeat' split
  all_goals (refine ⟨rfl, ?_, ?_⟩ <;> simp only <;> omega)

/-- Names in their order, behind a name. -/
def chainN : ByteArray → List ByteArray → Prop
  | _, [] => True
  | p, x :: t => leN x p = false ∧ chainN x t

theorem checkFrom_iff (ls : List LockD) : ∀ p, checkFrom p ls = 0 ↔ (∀ x ∈ ls, LockOk x ∧ 1 ≤ x.fence ∧ x.fence ≤ 1073741824) ∧ chainN p (ls.map (·.name)) := by
  induction ls with
  | nil => intro p; simp [checkFrom, chainN]
  | cons y t ih =>
    intro p
    unfold checkFrom
    constructor
    · intro h
      cases hf : formB y with
      | false => rw [hf] at h; simp at h
      | true =>
        rw [hf] at h
        simp only [Bool.true_eq_false, if_false] at h
        by_cases hr : y.fence < 1 ∨ 1073741824 < y.fence
        · rw [if_pos hr] at h; cases h
        · rw [if_neg hr] at h
          by_cases ho : leN y.name p = true
          · rw [if_pos ho] at h; cases h
          · rw [if_neg ho] at h
            obtain ⟨h1, h2⟩ := (ih y.name).1 h
            refine ⟨fun x hx => ?_, by simpa using ho, h2⟩
            rcases List.mem_cons.1 hx with rfl | hx
            · exact ⟨LockOk.mk' hf, by omega, by omega⟩
            · exact h1 x hx
    · rintro ⟨h1, h2, h3⟩
      obtain ⟨k1, k2, k3⟩ := h1 y (by simp)
      rw [if_neg (by rw [k1.form]; simp), if_neg (by omega), if_neg (by simp only at h2; rw [h2]; simp)]
      exact (ih y.name).2 ⟨fun x hx => h1 x (by simp [hx]), h3⟩

end Go.Proofs.YtijilhbdbeajjaaGreatDoor

namespace Go.Proofs.YtijilhbdbeajjaaGreatDoor

open Go.RowKit

theorem leave_facts {x : LockD} (h : LockOk x) {a : Int} (ha : 1 ≤ a) : (leaveX x a).holder ≠ a ∧ hasB a (leaveX x a).line = false ∧ (x.holder ≠ 0 → x.holder ≠ a → (leaveX x a).holder = x.holder) ∧ x.fence ≤ (leaveX x a).fence := by
  refine ⟨?_, ?_, ?_, (leaveX_name x a).2.1⟩
  · by_cases hw : x.holder = a
    · rw [leaveX_holder hw]
      obtain ⟨xn, xh, xf, xl⟩ := x
      simp only at hw
      cases xl with
      | nil => simp [giveUpX]; omega
      | cons b t =>
        have := (h.line.each b (by simp)).2.2
        simp only at this
        by_cases hm : xf = 1073741824
        · simp [giveUpX, hm]; omega
        · simp [giveUpX, hm]; omega
    · simp [leaveX, hw]
  · refine decide_eq_false fun hm => ?_
    by_cases hw : x.holder = a
    · rw [leaveX_holder hw] at hm
      obtain ⟨xn, xh, xf, xl⟩ := x
      simp only at hw
      cases xl with
      | nil => simp [giveUpX] at hm
      | cons b t =>
        by_cases hx : xf = 1073741824
        · simp [giveUpX, hx] at hm
        · have e : giveUpX ⟨xn, xh, xf, b :: t⟩ = ⟨xn, b, xf + 1, t⟩ := by simp [giveUpX, hx]
          rw [e] at hm
          exact (h.line.each a (by simp only at hm ⊢; simp [hm])).2.2 hw.symm
    · have e : leaveX x a = { x with line := x.line.filter (· != a) } := by simp [leaveX, hw]
      rw [e] at hm
      have := (List.mem_filter.1 hm).2
      simp at this
  · intro _ hw
    simp [leaveX, hw]

end Go.Proofs.YtijilhbdbeajjaaGreatDoor

namespace Go.Proofs.YtijilhbdbeajjaaGreatDoor

open Go.RowKit

/-- Who has a lock, and with which fence. -/
def whoL (ls : List LockD) (nm : ByteArray) : Int × Int :=
  match ls[atL ls nm]? with
  | some x => if x.holder = 0 then (0, 0) else (x.holder, x.fence)
  | none => (0, 0)

set_option maxRecDepth 100000 in
set_option maxHeartbeats 1600000 in
theorem Who_ok (v : Value) (ls : List LockD) (nm : ByteArray) (w : World) (B : Nat) (hv : LocksR w B v ls) (hB : B ≤ w.heap.size) (hr : checkL ls = 0) :
    Calls Tryz.prog 29 #[v, .string nm] w fun e w' => e = .returned (.tuple #[.int .i64 (whoL ls nm).1, .int .i64 (whoL ls nm).2, .int .i64 0]) ∧ Below w.heap.size w w' := by
  have CR := check_any v ls w B hv hB
  rw [hr] at CR
  have HV := Hid.mk' hv
  by_cases hat : atL ls nm < ls.length
  · obtain ⟨x, hx, hxe⟩ := atL_found hat
    have hxm : ∀ (j : Nat) (y : LockD), j < atL ls nm → ls[j]? = some y → eqN y.name nm = false := fun j y hj hy => atL_min j y hj hy
    have e : whoL ls nm = if x.holder = 0 then (0, 0) else (x.holder, x.fence) := by unfold whoL; rw [hx]
    rw [e]
    obtain ⟨i, hi⟩ : ∃ i, i = atL ls nm := ⟨_, rfl⟩
    rw [← hi] at hx hxm hat
    have hll := hv.len
    obtain ⟨ao, cap, rfl, h1, h2, h3, h4⟩ := hv
    obtain ⟨b, off, rfl, hbB, hc⟩ := h4 (by omega)
    obtain ⟨lv, c0, c1, c2, c3, hl, hs⟩ := hc i x hx
    obtain ⟨xn, xh, xf, xl⟩ := x
    simp only at hxe c1 c2
    have HX := Hid.mk' hx
    have HM := Hid.mk' hxm
    clear hx hxm hi e hr c0 c3 hl hs hc h4 h3
    by_cases h0 : xh = 0
    · subst h0
      simp only [if_true]
      go_enter Tryz.func29, Tryz.ntmps29
      go_wp2_with fail
      refine CR.mono ?_
      rintro e w1 ⟨rfl, hb1⟩
      go_wp2_with fail
      refine (named_any nm _).mono ?_
      rintro e w2 ⟨rfl, rfl⟩
      have hb2 : Below w.heap.size w (w1.alloc (.cells #[.string nm] 9)) := hb1.alloc hb1.size _
      have hrd := HV.out.below hb2 hB
      have hz1 := hb1.size
      go_wp2_with fail
      refine (indexNamed_found _ ls nm w1.heap.size i _ _ _ hrd (by simp; omega) (by simp) (by simp) HX.out hxe HM.out).mono ?_
      rintro e w3 ⟨rfl, hb3⟩
      have HB3 := Hid.mk' (hb2.trans (hb3.mono (by simp; omega)))
      have d1 : w3.cell? ⟨b, off + i * 4 + 1, none⟩ = some (.int .i64 0) := (HB3.out.cell (p := ⟨b, off + i * 4 + 1, none⟩) (by show b < w.heap.size; omega)).trans c1
      clear hb1 hb2 hb3 hrd c1 c2 CR
      go_wp2
      refine bodyPost_ret (v := .tuple #[.int .i64 0, .int .i64 0, .int .i64 0]) (by simp [results, Tryz.results29, go_sem]) rfl ?_
      exact ⟨rfl, HB3.out⟩
    · have h00 : (xh == 0) = false := by simpa using h0
      simp only [if_neg h0]
      clear h0
      go_enter Tryz.func29, Tryz.ntmps29
      go_wp2_with fail
      refine CR.mono ?_
      rintro e w1 ⟨rfl, hb1⟩
      go_wp2_with fail
      refine (named_any nm _).mono ?_
      rintro e w2 ⟨rfl, rfl⟩
      have hb2 : Below w.heap.size w (w1.alloc (.cells #[.string nm] 9)) := hb1.alloc hb1.size _
      have hrd := HV.out.below hb2 hB
      have hz1 := hb1.size
      go_wp2_with fail
      refine (indexNamed_found _ ls nm w1.heap.size i _ _ _ hrd (by simp; omega) (by simp) (by simp) HX.out hxe HM.out).mono ?_
      rintro e w3 ⟨rfl, hb3⟩
      have HB3 := Hid.mk' (hb2.trans (hb3.mono (by simp; omega)))
      have d1 : w3.cell? ⟨b, off + i * 4 + 1, none⟩ = some (.int .i64 xh) := (HB3.out.cell (p := ⟨b, off + i * 4 + 1, none⟩) (by show b < w.heap.size; omega)).trans c1
      have d2 : w3.cell? ⟨b, off + i * 4 + 2, none⟩ = some (.int .i64 xf) := (HB3.out.cell (p := ⟨b, off + i * 4 + 2, none⟩) (by show b < w.heap.size; omega)).trans c2
      clear hb1 hb2 hb3 hrd c1 c2 CR
      go_wp2_with fail
      go_quiet (fail)
      go_wp2
      refine bodyPost_ret (v := .tuple #[.int .i64 xh, .int .i64 xf, .int .i64 0]) (by simp [results, Tryz.results29, go_sem]) rfl ?_
      exact ⟨rfl, HB3.out.trans (drewN_below _ _ _)⟩
  · have hxm : ∀ (j : Nat) (y : LockD), ls[j]? = some y → eqN y.name nm = false := fun j y hy => atL_none hat j y hy
    have e : whoL ls nm = (0, 0) := by unfold whoL; rw [List.getElem?_eq_none (by omega)]
    rw [e]
    simp only
    have HM := Hid.mk' hxm
    obtain ⟨ao, cap, rfl, -⟩ := hv
    clear hxm e hr hat
    go_enter Tryz.func29, Tryz.ntmps29
    go_wp2_with fail
    refine CR.mono ?_
    rintro e w1 ⟨rfl, hb1⟩
    go_wp2_with fail
    refine (named_any nm _).mono ?_
    rintro e w2 ⟨rfl, rfl⟩
    have hb2 : Below w.heap.size w (w1.alloc (.cells #[.string nm] 9)) := hb1.alloc hb1.size _
    have hrd := HV.out.below hb2 hB
    have hz1 := hb1.size
    go_wp2_with fail
    refine (indexNamed_none _ ls nm w1.heap.size _ _ hrd (by simp; omega) (by simp) (by simp) HM.out).mono ?_
    rintro e w3 ⟨rfl, hb3⟩
    have HB3 := Hid.mk' (hb2.trans (hb3.mono (by simp; omega)))
    clear hb1 hb2 hb3 hrd CR
    go_wp2
    refine bodyPost_ret (v := .tuple #[.int .i64 0, .int .i64 0, .int .i64 0]) (by simp [results, Tryz.results29, go_sem]) rfl ?_
    exact ⟨rfl, HB3.out⟩

end Go.Proofs.YtijilhbdbeajjaaGreatDoor

namespace Go.Proofs.YtijilhbdbeajjaaGreatDoor

open Go.RowKit

/-- Locks that may be. -/
structure GoodL (ls : List LockD) : Prop where
  len : ls.length ≤ 5
  each : ∀ x ∈ ls, LockOk x ∧ 1 ≤ x.fence ∧ x.fence ≤ 1073741824
  chain : chainN ⟨#[]⟩ (ls.map (·.name))

theorem GoodL.of {ls : List LockD} (h : checkL ls = 0) : GoodL ls := by
  unfold checkL at h
  by_cases h5 : 5 < ls.length
  · rw [if_pos h5] at h; cases h
  · rw [if_neg h5, checkFrom_iff] at h
    exact ⟨by omega, h.1, h.2⟩

theorem GoodL.check {ls : List LockD} (h : GoodL ls) : checkL ls = 0 := by
  unfold checkL
  rw [if_neg (by have := h.len; omega), checkFrom_iff]
  exact ⟨h.each, h.chain⟩

theorem GoodL.nil : GoodL [] := ⟨by simp, by simp, trivial⟩

theorem leN_anti {a b : ByteArray} (hne : eqN a b = false) (hle : leN a b = true) : leN b a = false := by
  have h : ltP a b = true := by
    cases hx : ltP a b with
    | true => rfl
    | false =>
      have h1 : leP a b = true := hle
      have h2 : eqP a b = false := hne
      unfold leP at h1
      unfold ltP at hx
      unfold eqP at h2
      rw [hx, h2] at h1
      cases h1
  exact leP_of_lt h

theorem giveUpX_high {x : LockD} (h : x.fence ≤ 1073741824) : (giveUpX x).fence ≤ 1073741824 := by
  obtain ⟨xn, xh, xf, xl⟩ := x
  simp only at h
  cases xl with
  | nil => simpa [giveUpX] using h
  | cons a t =>
    by_cases hm : xf = 1073741824
    · simp [giveUpX, hm]
    · simp [giveUpX, hm]; omega

theorem leaveX_high {x : LockD} (who : Int) (h : x.fence ≤ 1073741824) : (leaveX x who).fence ≤ 1073741824 := by
  by_cases hw : x.holder = who
  · rw [leaveX_holder hw]; exact giveUpX_high h
  · simpa [leaveX, hw] using h

theorem takeX_high {x : LockD} (who : Int) (wait : Bool) (h : x.fence ≤ 1073741824) : (takeX x who wait).1.fence ≤ 1073741824 := by
  unfold takeX meetX
  repeat' split
  all_goals (simp only; omega)

theorem GoodL.gone {ls : List LockD} (h : GoodL ls) (who : Int) : GoodL (goneL ls who) := by
  refine ⟨by simpa [goneL] using h.len, fun x hx => ?_, ?_⟩
  · obtain ⟨y, hy, rfl⟩ := List.mem_map.1 hx
    obtain ⟨h1, h2, h3⟩ := h.each y hy
    obtain ⟨e1, e2, e3⟩ := leaveX_name y who
    exact ⟨h1.leave who, by omega, leaveX_high who h3⟩
  · have : (goneL ls who).map (·.name) = ls.map (·.name) := by
      unfold goneL
      rw [List.map_map]
      exact List.map_congr_left fun y _ => (leaveX_name y who).1
    rw [this]
    exact h.chain

theorem GoodL.goneE {ls : List LockD} (h : GoodL ls) {who : Int} (w1 : 1 ≤ who) (w2 : who ≤ 9) : goneE ls who = 0 := by
  unfold Go.Proofs.YtijilhbdbeajjaaGreatDoor.goneE
  rw [if_pos h.check, if_neg (by omega)]

theorem GoodL.refuse {ls : List LockD} (h : GoodL ls) {nm : ByteArray} (hn : nameB nm = true) {who : Int} (w1 : 1 ≤ who) (w2 : who ≤ 9) : refuseL ls nm who = 0 := by
  unfold refuseL
  rw [if_neg (by rw [h.check]; simp), if_neg (by rw [hn]; simp), if_neg (by omega)]

theorem GoodL.set {ls : List LockD} (h : GoodL ls) {i : Nat} {x y : LockD} (hx : ls[i]? = some x) (hy : LockOk y) (hn : y.name = x.name) (f1 : x.fence ≤ y.fence) (f2 : y.fence ≤ 1073741824) : GoodL (ls.set i y) := by
  have hxm := h.each x (List.mem_of_getElem? hx)
  refine ⟨by simpa using h.len, fun z hz => ?_, ?_⟩
  · rcases List.mem_or_eq_of_mem_set hz with hz | rfl
    · exact h.each z hz
    · exact ⟨hy, by omega, f2⟩
  · have : (ls.set i y).map (·.name) = ls.map (·.name) := by
      rw [List.map_set, hn]
      obtain ⟨hi, he⟩ := List.getElem?_eq_some_iff.1 hx
      refine List.ext_getElem (by simp) fun j h1 h2 => ?_
      rw [List.getElem_set]
      split
      · rename_i e; subst e; simp [he]
      · rfl
    rw [this]
    exact h.chain

theorem GoodL.free {ls : List LockD} (h : GoodL ls) (nm : ByteArray) (who : Int) : GoodL (freeL ls nm who).1 := by
  by_cases hat : atL ls nm < ls.length
  · obtain ⟨x, hx, -⟩ := atL_found hat
    rw [freeL_found hat hx]
    have hxm := h.each x (List.mem_of_getElem? hx)
    have := leaveX_name x who
    exact h.set hx (hxm.1.leave who) this.1 this.2.1 (leaveX_high who hxm.2.2)
  · unfold freeL
    rw [dif_neg hat]
    exact h

theorem chain_insG {nm : ByteArray} {x : LockD} (hx : x.name = nm) (ls : List LockD) : ∀ p, (∀ y ∈ ls, eqN y.name nm = false) → leN nm p = false → chainN p (ls.map (·.name)) → chainN p ((ls.take (placeL ls nm) ++ x :: ls.drop (placeL ls nm)).map (·.name)) := by
  induction ls with
  | nil => intro p _ h _; simp [placeL, chainN, hx, h]
  | cons y t ih =>
    intro p he h hc
    unfold placeL
    rw [List.findIdx_cons]
    cases hg : gtN y.name nm with
    | true =>
      simp only [cond_true, List.take_zero, List.drop_zero, List.nil_append, List.map_cons, chainN]
      refine ⟨by rw [hx]; exact h, ?_, hc.2⟩
      rw [hx]
      simpa [gtN] using hg
    | false =>
      simp only [cond_false, List.take_succ_cons, List.drop_succ_cons, List.cons_append, List.map_cons, chainN]
      refine ⟨hc.1, ih y.name (fun z hz => he z (by simp [hz])) ?_ hc.2⟩
      exact leN_anti (he y (by simp)) (by simpa [gtN] using hg)

theorem GoodL.take {ls : List LockD} (h : GoodL ls) {nm : ByteArray} (hn : nameB nm = true) {who : Int} (w1 : 1 ≤ who) (w2 : who ≤ 9) (wait : Bool) : GoodL (takeL ls nm who wait).1 := by
  by_cases hat : atL ls nm < ls.length
  · obtain ⟨x, hx, -⟩ := atL_found hat
    have e : ls[atL ls nm] = x := (List.getElem?_eq_some_iff.1 hx).2
    have hxm := h.each x (List.mem_of_getElem? hx)
    have := takeX_name x who wait
    unfold takeL
    rw [dif_pos hat, e]
    exact h.set hx (hxm.1.take w1 w2 wait) this.1 this.2.1 (takeX_high who wait hxm.2.2)
  · unfold takeL
    rw [dif_neg hat]
    by_cases h5 : ls.length = 5
    · rw [if_pos h5]; exact h
    rw [if_neg h5]
    have hpl : placeL ls nm ≤ ls.length := List.findIdx_le_length
    have hl := h.len
    have he : ∀ y ∈ ls, eqN y.name nm = false := fun y hy => by
      obtain ⟨j, hj⟩ := List.getElem?_of_mem hy
      exact atL_none hat j y hj
    refine ⟨by simp [List.length_take, List.length_drop]; omega, fun x hx => ?_, chain_insG (x := ⟨nm, who, 1, []⟩) (nm := nm) rfl ls _ he (leP_empty hn) h.chain⟩
    simp only at hx
    rcases List.mem_append.1 hx with hx | hx
    · exact h.each x (List.mem_of_mem_take hx)
    · rcases List.mem_cons.1 hx with rfl | hx
      · exact ⟨⟨hn, by simp only; omega, by simp only; omega, ⟨by simp, fun _ => rfl, by simp, by simp⟩⟩, by simp, by simp⟩
      · exact h.each x (List.mem_of_mem_drop hx)

/-- What is replied may be kept. -/
def RepOk (c n : Int) : Prop := 0 ≤ c ∧ c ≤ 15 ∧ 0 ≤ n ∧ n ≤ 1073741824

theorem takeX_rep {x : LockD} (h : LockOk x) (f1 : 1 ≤ x.fence) (f2 : x.fence ≤ 1073741824) (who : Int) (wait : Bool) : RepOk (takeX x who wait).2.1 (takeX x who wait).2.2 := by
  have h1 := h.low
  have h2 := h.high
  unfold takeX meetX RepOk
  repeat' split
  all_goals (simp only; omega)

theorem GoodL.takeRep {ls : List LockD} (h : GoodL ls) (nm : ByteArray) (who : Int) (wait : Bool) : RepOk (takeL ls nm who wait).2.1 (takeL ls nm who wait).2.2 := by
  by_cases hat : atL ls nm < ls.length
  · obtain ⟨x, hx, -⟩ := atL_found hat
    have e : ls[atL ls nm] = x := (List.getElem?_eq_some_iff.1 hx).2
    have hxm := h.each x (List.mem_of_getElem? hx)
    unfold takeL
    rw [dif_pos hat, e]
    exact takeX_rep hxm.1 hxm.2.1 hxm.2.2 who wait
  · unfold takeL RepOk
    rw [dif_neg hat]
    split <;> simp

theorem GoodL.freeRep {ls : List LockD} (h : GoodL ls) (nm : ByteArray) (who : Int) : RepOk (freeL ls nm who).2.1 (freeL ls nm who).2.2 := by
  by_cases hat : atL ls nm < ls.length
  · obtain ⟨x, hx, -⟩ := atL_found hat
    rw [freeL_found hat hx]
    have hl := (h.each x (List.mem_of_getElem? hx)).1.leave who
    have h1 := hl.low
    have h2 := hl.high
    unfold RepOk
    split <;> (simp only; omega)
  · unfold freeL RepOk
    rw [dif_neg hat]
    simp

theorem GoodL.whoRep {ls : List LockD} (h : GoodL ls) (nm : ByteArray) : 0 ≤ (whoL ls nm).1 ∧ (whoL ls nm).1 ≤ 9 ∧ 0 ≤ (whoL ls nm).2 ∧ (whoL ls nm).2 ≤ 1073741824 := by
  unfold whoL
  split
  · rename_i x hx
    have hxm := h.each x (List.mem_of_getElem? hx)
    have h1 := hxm.1.low
    have h2 := hxm.1.high
    split
    · simp
    · simp only; omega
  · simp

/-- All that have a lock, or stand in a line, are such. -/
def Holds (H : Int → Prop) (ls : List LockD) : Prop := ∀ x ∈ ls, (x.holder ≠ 0 → H x.holder) ∧ ∀ a ∈ x.line, H a

theorem Holds.nil (H : Int → Prop) : Holds H [] := fun x hx => by cases hx

theorem Holds.mono {H K : Int → Prop} {ls : List LockD} (h : Holds H ls) (hk : ∀ a, H a → K a) : Holds K ls := fun x hx => ⟨fun h0 => hk _ ((h x hx).1 h0), fun a ha => hk _ ((h x hx).2 a ha)⟩

/-- Who has a lock that a client left, or stands in its line, did so ahead of it. -/
theorem leaveX_from (x : LockD) (who : Int) : ((leaveX x who).holder = 0 ∨ (leaveX x who).holder = x.holder ∨ (leaveX x who).holder ∈ x.line) ∧ ∀ a ∈ (leaveX x who).line, a ∈ x.line := by
  by_cases hw : x.holder = who
  · rw [leaveX_holder hw]
    obtain ⟨xn, xh, xf, xl⟩ := x
    cases xl with
    | nil => simp [giveUpX]
    | cons b t =>
      by_cases hm : xf = 1073741824
      · simp [giveUpX, hm]
      · have e : giveUpX ⟨xn, xh, xf, b :: t⟩ = ⟨xn, b, xf + 1, t⟩ := by simp [giveUpX, hm]
        rw [e]
        exact ⟨Or.inr (Or.inr (by simp)), fun a ha => List.mem_cons_of_mem _ ha⟩
  · have e : leaveX x who = { x with line := x.line.filter (· != who) } := by simp [leaveX, hw]
    rw [e]
    exact ⟨Or.inr (Or.inl rfl), fun a ha => (List.mem_filter.1 ha).1⟩

theorem Holds.leave {H : Int → Prop} {x : LockD} (hx : (x.holder ≠ 0 → H x.holder) ∧ ∀ a ∈ x.line, H a) (who : Int) : ((leaveX x who).holder ≠ 0 → H (leaveX x who).holder) ∧ ∀ a ∈ (leaveX x who).line, H a := by
  obtain ⟨h1, h2⟩ := leaveX_from x who
  refine ⟨fun h0 => ?_, fun a ha => hx.2 a (h2 a ha)⟩
  rcases h1 with e | e | e
  · exact absurd e h0
  · rw [e] at h0 ⊢; exact hx.1 h0
  · exact hx.2 _ e

theorem Holds.gone {H : Int → Prop} {ls : List LockD} (h : Holds H ls) (hg : GoodL ls) {who : Int} (hw : 1 ≤ who) : Holds (fun a => H a ∧ a ≠ who) (goneL ls who) := by
  intro x hx
  obtain ⟨y, hy, rfl⟩ := List.mem_map.1 hx
  obtain ⟨k1, k2⟩ := Holds.leave (h y hy) who
  obtain ⟨l1, l2, -⟩ := leave_facts (hg.each y hy).1 hw
  refine ⟨fun h0 => ⟨k1 h0, l1⟩, fun a ha => ⟨k2 a ha, fun e => ?_⟩⟩
  subst e
  exact of_decide_eq_false l2 ha

theorem Holds.set {H : Int → Prop} {ls : List LockD} (h : Holds H ls) {i : Nat} {y : LockD} (hy : (y.holder ≠ 0 → H y.holder) ∧ ∀ a ∈ y.line, H a) : Holds H (ls.set i y) := by
  intro x hx
  rcases List.mem_or_eq_of_mem_set hx with hx | rfl
  · exact h x hx
  · exact hy

theorem Holds.free {H : Int → Prop} {ls : List LockD} (h : Holds H ls) (nm : ByteArray) (who : Int) : Holds H (freeL ls nm who).1 := by
  by_cases hat : atL ls nm < ls.length
  · obtain ⟨x, hx, -⟩ := atL_found hat
    rw [freeL_found hat hx]
    exact h.set (Holds.leave (h x (List.mem_of_getElem? hx)) who)
  · unfold freeL
    rw [dif_neg hat]
    exact h

theorem Holds.takeX {H : Int → Prop} {x : LockD} (hx : (x.holder ≠ 0 → H x.holder) ∧ ∀ a ∈ x.line, H a) {who : Int} (hw : H who) (wait : Bool) : ((takeX x who wait).1.holder ≠ 0 → H (takeX x who wait).1.holder) ∧ ∀ a ∈ (takeX x who wait).1.line, H a := by
  unfold Go.Proofs.YtijilhbdbeajjaaGreatDoor.takeX meetX
  repeat' split
  · exact hx
  · exact hx
  · refine ⟨hx.1, fun a ha => ?_⟩
    rcases List.mem_append.1 ha with ha | ha
    · exact hx.2 a ha
    · have : a = who := by simpa using ha
      rw [this]; exact hw
  · exact hx
  · exact hx
  · exact ⟨fun _ => hw, hx.2⟩

theorem Holds.take {H : Int → Prop} {ls : List LockD} (h : Holds H ls) (nm : ByteArray) {who : Int} (hw : H who) (wait : Bool) : Holds H (takeL ls nm who wait).1 := by
  by_cases hat : atL ls nm < ls.length
  · obtain ⟨x, hx, -⟩ := atL_found hat
    have e : ls[atL ls nm] = x := (List.getElem?_eq_some_iff.1 hx).2
    unfold takeL
    rw [dif_pos hat, e]
    exact h.set (Holds.takeX (h x (List.mem_of_getElem? hx)) hw wait)
  · unfold takeL
    rw [dif_neg hat]
    split
    · exact h
    · intro x hx
      simp only at hx
      rcases List.mem_append.1 hx with hx | hx
      · exact h x (List.mem_of_mem_take hx)
      · rcases List.mem_cons.1 hx with rfl | hx
        · exact ⟨fun _ => hw, by simp⟩
        · exact h x (List.mem_of_mem_drop hx)

end Go.Proofs.YtijilhbdbeajjaaGreatDoor

namespace Go.Proofs.YtijilhbdbeajjaaGreatDoor

open Go.RowKit

theorem joinE_zero {ls : List SessD} {i c : Int} (h : joinE ls i c = 0) : checkS ls i = 0 ∧ (1 ≤ c ∧ c ≤ 9) ∧ i ≠ 1073741824 := by
  unfold joinE at h
  by_cases h1 : checkS ls i = 0
  · by_cases h2 : (1 ≤ c ∧ c ≤ 9) ∧ i ≠ 1073741824
    · exact ⟨h1, h2⟩
    · rw [if_neg (by simpa using h1), if_neg h2] at h
      cases h
  · rw [if_pos h1] at h
    exact absurd h h1

theorem joinS_there {ls : List SessD} {i c : Int} {x : SessD} (ht : thereS ls c = true) (hx : ls[placeS ls c]? = some x) : joinS ls i c = (ls.set (placeS ls c) { x with last := i + 1 }, ⟨7, x.id, ⟨#[]⟩⟩) := by
  unfold joinS; rw [ht, hx]

theorem joinS_full {ls : List SessD} {i c : Int} (ht : thereS ls c = false) (h : ls.length = 4) : joinS ls i c = (ls, ⟨8, 0, ⟨#[]⟩⟩) := by
  unfold joinS; rw [ht]; simp [h]

theorem joinS_new {ls : List SessD} {i c : Int} (ht : thereS ls c = false) (h : ls.length ≠ 4) : joinS ls i c = (ls.take (placeS ls c) ++ ⟨c, i + 1, 0, i + 1, []⟩ :: ls.drop (placeS ls c), ⟨0, i + 1, ⟨#[]⟩⟩) := by
  unfold joinS; rw [ht]; simp [h]

theorem thereS_some {ls : List SessD} {c : Int} (ht : thereS ls c = true) : ∃ x, ls[placeS ls c]? = some x ∧ x.client = c := by
  unfold thereS at ht
  cases h : ls[placeS ls c]? with
  | none => rw [h] at ht; cases ht
  | some x => rw [h] at ht; exact ⟨x, rfl, by simpa using ht⟩

theorem map_at {ls : List SessD} {rs : List (SessD × Value)} {n : Nat} {x : SessD} (hrs : rs.map (·.1) = ls) (hx : ls[n]? = some x) : ∃ v, rs[n]? = some (x, v) := by
  rw [← hrs, List.getElem?_map] at hx
  obtain ⟨r, hr, rfl⟩ := Option.map_eq_some_iff.1 hx
  exact ⟨r.2, hr⟩

end Go.Proofs.YtijilhbdbeajjaaGreatDoor

namespace Go.Proofs.YtijilhbdbeajjaaGreatDoor

open Go.RowKit

theorem leaveS_there {ls : List SessD} {c : Int} (ht : thereS ls c = true) : leaveS ls c = (ls.eraseIdx (placeS ls c), ⟨0, 0, ⟨#[]⟩⟩) := by unfold leaveS; rw [if_pos ht]

theorem leaveS_away {ls : List SessD} {c : Int} (ht : thereS ls c = false) : leaveS ls c = (ls, ⟨11, 0, ⟨#[]⟩⟩) := by unfold leaveS; rw [if_neg (by simp [ht])]

theorem map_erase {ls : List SessD} {rs : List (SessD × Value)} {n : Nat} (hrs : rs.map (·.1) = ls) : (rs.eraseIdx n).map (·.1) = ls.eraseIdx n := by rw [← hrs, List.eraseIdx_eq_take_drop_succ, List.eraseIdx_eq_take_drop_succ, List.map_append, List.map_take, List.map_drop]

end Go.Proofs.YtijilhbdbeajjaaGreatDoor

namespace Go.Proofs.YtijilhbdbeajjaaGreatDoor

open Go.RowKit

theorem readyE_check {ls : List SessD} {i q u : Int} (h : checkS ls i ≠ 0) : readyE ls i q u = checkS ls i := by unfold readyE; rw [if_pos h]

theorem readyE_range {ls : List SessD} {i q u : Int} (h : checkS ls i = 0) (h2 : ¬ (i ≠ 1073741824 ∧ (1 ≤ q ∧ q ≤ 1048576) ∧ 0 ≤ u ∧ u ≤ q - 1)) : readyE ls i q u = 2 := by unfold readyE; rw [if_neg (by simpa using h), if_neg h2]

theorem readyE_ok {ls : List SessD} {i q u : Int} (h : checkS ls i = 0) (h2 : i ≠ 1073741824 ∧ (1 ≤ q ∧ q ≤ 1048576) ∧ 0 ≤ u ∧ u ≤ q - 1) : readyE ls i q u = 0 := by unfold readyE; rw [if_neg (by simpa using h), if_pos h2]

theorem readyE_zero {ls : List SessD} {i q u : Int} (h : readyE ls i q u = 0) : checkS ls i = 0 ∧ i ≠ 1073741824 ∧ (1 ≤ q ∧ q ≤ 1048576) ∧ 0 ≤ u ∧ u ≤ q - 1 := by
  by_cases h1 : checkS ls i = 0
  · by_cases h2 : i ≠ 1073741824 ∧ (1 ≤ q ∧ q ≤ 1048576) ∧ 0 ≤ u ∧ u ≤ q - 1
    · exact ⟨h1, h2⟩
    · rw [readyE_range h1 h2] at h
      cases h
  · rw [readyE_check h1] at h
    exact absurd h h1

theorem readyS_away {ls : List SessD} {i c s q u : Int} (ht : thereS ls c = false) : readyS ls i c s q u = (ls, ⟨11, 0, ⟨#[]⟩⟩, false) := by unfold readyS; rw [ht]

theorem readyS_other {ls : List SessD} {i c s q u : Int} {x : SessD} (ht : thereS ls c = true) (hx : ls[placeS ls c]? = some x) (h : x.id ≠ s) : readyS ls i c s q u = (ls, ⟨11, 0, ⟨#[]⟩⟩, false) := by unfold readyS; rw [ht, hx]; simp [h]

theorem readyS_here {ls : List SessD} {i c s q u : Int} {x : SessD} (ht : thereS ls c = true) (hx : ls[placeS ls c]? = some x) (h : x.id = s) : readyS ls i c s q u = (ls.set (placeS ls c) (hearD x (i + 1) u), answerD (hearD x (i + 1) u) q) := by unfold readyS; rw [ht, hx]; simp [h]

end Go.Proofs.YtijilhbdbeajjaaGreatDoor

namespace Go.Proofs.YtijilhbdbeajjaaGreatDoor

open Go.RowKit

theorem keepE_check {ls : List SessD} {i c : Int} {k : KeptD} (h : checkS ls i ≠ 0) : keepE ls i c k = checkS ls i := by unfold keepE; rw [if_pos h]

theorem keepE_away {ls : List SessD} {i c : Int} {k : KeptD} (h : checkS ls i = 0) (ht : thereS ls c = false) : keepE ls i c k = 11 := by unfold keepE; rw [if_neg (by simpa using h), ht]

theorem keepE_twice {ls : List SessD} {i c : Int} {k : KeptD} {x : SessD} (h : checkS ls i = 0) (ht : thereS ls c = true) (hx : ls[placeS ls c]? = some x) (hk : thereK x.replies k.seq = true) : keepE ls i c k = 7 := by unfold keepE; rw [if_neg (by simpa using h), ht, hx]; simp [hk]

theorem keepE_form {ls : List SessD} {i c : Int} {k : KeptD} {x : SessD} (h : checkS ls i = 0) (ht : thereS ls c = true) (hx : ls[placeS ls c]? = some x) (hk : thereK x.replies k.seq = false) (hf : formFrom x.acked x.acked (withK x.replies k) = false) : keepE ls i c k = 2 := by
  unfold keepE; rw [if_neg (by simpa using h), ht, hx]
  have e : sformB { x with replies := withK x.replies k } = false := hf
  simp [hk, e]

theorem keepE_ok {ls : List SessD} {i c : Int} {k : KeptD} {x : SessD} (h : checkS ls i = 0) (ht : thereS ls c = true) (hx : ls[placeS ls c]? = some x) (hk : thereK x.replies k.seq = false) (hf : formFrom x.acked x.acked (withK x.replies k) = true) : keepE ls i c k = 0 := by
  unfold keepE; rw [if_neg (by simpa using h), ht, hx]
  have e : sformB { x with replies := withK x.replies k } = true := hf
  simp [hk, e]

theorem keepS_there {ls : List SessD} {c : Int} {k : KeptD} {x : SessD} (hx : ls[placeS ls c]? = some x) : keepS ls c k = ls.set (placeS ls c) { x with replies := withK x.replies k } := by unfold keepS; rw [hx]

/-- How Keep ends. -/
theorem keep_cases (ls : List SessD) (i c : Int) (k : KeptD) : (checkS ls i ≠ 0 ∧ keepE ls i c k = checkS ls i) ∨ (checkS ls i = 0 ∧ thereS ls c = false ∧ keepE ls i c k = 11) ∨
    ∃ x, checkS ls i = 0 ∧ thereS ls c = true ∧ ls[placeS ls c]? = some x ∧ ((thereK x.replies k.seq = true ∧ keepE ls i c k = 7) ∨ (thereK x.replies k.seq = false ∧ formFrom x.acked x.acked (withK x.replies k) = false ∧ keepE ls i c k = 2) ∨ (thereK x.replies k.seq = false ∧ formFrom x.acked x.acked (withK x.replies k) = true ∧ keepE ls i c k = 0)) := by
  by_cases h : checkS ls i = 0
  · cases ht : thereS ls c with
    | false => exact Or.inr (Or.inl ⟨h, rfl, keepE_away h ht⟩)
    | true =>
      obtain ⟨x, hx, -⟩ := thereS_some ht
      refine Or.inr (Or.inr ⟨x, h, rfl, hx, ?_⟩)
      cases hk : thereK x.replies k.seq with
      | true => exact Or.inl ⟨rfl, keepE_twice h ht hx hk⟩
      | false =>
        cases hf : formFrom x.acked x.acked (withK x.replies k) with
        | false => exact Or.inr (Or.inl ⟨rfl, rfl, keepE_form h ht hx hk hf⟩)
        | true => exact Or.inr (Or.inr ⟨rfl, rfl, keepE_ok h ht hx hk hf⟩)
  · exact Or.inl ⟨h, keepE_check h⟩

end Go.Proofs.YtijilhbdbeajjaaGreatDoor

namespace Go.Proofs.YtijilhbdbeajjaaGreatDoor

open Go.RowKit

/-- The client has a session. -/
def HasC (ls : List SessD) (c : Int) : Prop := ∃ x ∈ ls, x.client = c

theorem placeS_leq (ls : List SessD) (c : Int) : placeS ls c ≤ ls.length := List.findIdx_le_length

theorem placeS_lt {ls : List SessD} {c : Int} {j : Nat} {x : SessD} (hj : j < placeS ls c) (hx : ls[j]? = some x) : x.client < c := by
  have := List.not_of_lt_findIdx (p := fun x : SessD => decide (c ≤ x.client)) (xs := ls) hj
  obtain ⟨hl, he⟩ := List.getElem?_eq_some_iff.1 hx
  rw [he] at this
  simpa using this

theorem placeS_ge {ls : List SessD} {c : Int} {x : SessD} (hx : ls[placeS ls c]? = some x) : c ≤ x.client := by
  obtain ⟨hl, he⟩ := List.getElem?_eq_some_iff.1 hx
  have h : decide (c ≤ (ls[placeS ls c]'hl).client) = true := List.findIdx_getElem (w := hl)
  rw [he] at h
  simpa using h

theorem order_at {ls : List SessD} (h : ls.Pairwise (fun a b => a.client < b.client)) {i j : Nat} {x y : SessD} (hij : i < j) (hx : ls[i]? = some x) (hy : ls[j]? = some y) : x.client < y.client := by
  obtain ⟨hi, rfl⟩ := List.getElem?_eq_some_iff.1 hx
  obtain ⟨hj, rfl⟩ := List.getElem?_eq_some_iff.1 hy
  exact List.pairwise_iff_getElem.1 h i j hi hj hij

/-- Behind the place all clients are greater, or the first is the client. -/
theorem after_place {ls : List SessD} (h : ls.Pairwise (fun a b => a.client < b.client)) {c : Int} (ht : thereS ls c = false) {j : Nat} {x : SessD} (hj : placeS ls c ≤ j) (hx : ls[j]? = some x) : c < x.client := by
  have hl : j < ls.length := (List.getElem?_eq_some_iff.1 hx).1
  have hp : placeS ls c < ls.length := by omega
  have hy : ls[placeS ls c]? = some ls[placeS ls c] := List.getElem?_eq_getElem hp
  have h1 := placeS_ge hy
  have h2 : ls[placeS ls c].client ≠ c := by
    unfold thereS at ht
    rw [hy] at ht
    simpa using ht
  by_cases e : placeS ls c = j
  · subst e
    rw [hy] at hx
    cases hx
    omega
  · have := order_at h (by omega) hy hx
    omega

theorem Fine.step {i j : Int} {x : SessD} (h : Fine i x) (hij : i ≤ j) : Fine j x := by
  refine ⟨?_, h.form⟩
  have := rangeB_iff.1 h.range
  exact rangeB_iff.2 (by omega)

theorem GoodS.step {ls : List SessD} {i j : Int} (h : GoodS ls i) (hij : i ≤ j) (hj : j ≤ 1073741824) : GoodS ls j :=
  ⟨by have := h.low; omega, hj, h.len, fun x hx => (h.fine x hx).step hij, h.order⟩

theorem GoodS.sub {ls xs : List SessD} {i : Int} (h : GoodS ls i) (hs : xs.Sublist ls) : GoodS xs i :=
  ⟨h.low, h.high, by have := h.len; have := hs.length_le; omega, fun x hx => h.fine x (hs.subset hx), h.order.sublist hs⟩

theorem GoodS.fresh {ls : List SessD} {i : Int} (h : GoodS ls i) (j : Int) : GoodS (freshS ls j) i := h.sub List.filter_sublist

theorem GoodS.leave {ls : List SessD} {i : Int} (h : GoodS ls i) (c : Int) : GoodS (leaveS ls c).1 i := by
  unfold leaveS
  split
  · exact h.sub (List.eraseIdx_sublist ..)
  · exact h

/-- One session put anew, of the same client. -/
theorem GoodS.put {ls : List SessD} {i : Int} (h : GoodS ls i) {p : Nat} {x y : SessD} (hx : ls[p]? = some x) (hc : y.client = x.client) (hy : Fine i y) : GoodS (ls.set p y) i := by
  refine ⟨h.low, h.high, by simpa using h.len, fun z hz => ?_, ?_⟩
  · rcases List.mem_or_eq_of_mem_set hz with hz | rfl
    · exact h.fine z hz
    · exact hy
  · have e : ∀ (j : Nat) (z : SessD), (ls.set p y)[j]? = some z → ∃ u : SessD, ls[j]? = some u ∧ u.client = z.client := by
      intro j z hz
      by_cases e : p = j
      · subst e
        rw [List.getElem?_set_self (List.getElem?_eq_some_iff.1 hx).1] at hz
        cases hz
        exact ⟨x, hx, hc.symm⟩
      · rw [List.getElem?_set_ne e] at hz
        exact ⟨z, hz, rfl⟩
    refine List.pairwise_iff_getElem.2 fun a b ha hb hab => ?_
    obtain ⟨u, hu, eu⟩ := e a _ (List.getElem?_eq_getElem ha)
    obtain ⟨v, hv, ev⟩ := e b _ (List.getElem?_eq_getElem hb)
    rw [← eu, ← ev]
    exact order_at h.order hab hu hv

theorem hasC_put {ls : List SessD} {p : Nat} {x y : SessD} (hx : ls[p]? = some x) (hc : y.client = x.client) (c : Int) : HasC (ls.set p y) c ↔ HasC ls c := by
  have hp := (List.getElem?_eq_some_iff.1 hx).1
  constructor
  · rintro ⟨z, hz, e⟩
    rcases List.mem_or_eq_of_mem_set hz with hz | rfl
    · exact ⟨z, hz, e⟩
    · exact ⟨x, List.mem_of_getElem? hx, by omega⟩
  · rintro ⟨z, hz, e⟩
    obtain ⟨j, hj⟩ := List.mem_iff_getElem?.1 hz
    by_cases ej : p = j
    · subst ej
      rw [hx] at hj
      cases hj
      exact ⟨y, List.mem_iff_getElem?.2 ⟨p, List.getElem?_set_self hp⟩, by omega⟩
    · exact ⟨z, List.mem_iff_getElem?.2 ⟨j, by rw [List.getElem?_set_ne ej]; exact hj⟩, e⟩

theorem GoodS.join {ls : List SessD} {i : Int} (h : GoodS ls i) (hi : i < 1073741824) {c : Int} (c1 : 1 ≤ c) (c2 : c ≤ 9) : GoodS (joinS ls i c).1 (i + 1) := by
  have hs := h.step (j := i + 1) (by omega) (by omega)
  have h0 := h.low
  cases ht : thereS ls c with
  | true =>
    obtain ⟨x, hx, e⟩ := thereS_some ht
    rw [joinS_there ht hx]
    have hf := hs.fine x (List.mem_of_getElem? hx)
    refine hs.put hx rfl ⟨?_, hf.form⟩
    have := rangeB_iff.1 hf.range
    refine rangeB_iff.2 ?_
    simp only
    omega
  | false =>
    by_cases h4 : ls.length = 4
    · rw [joinS_full ht h4]; exact hs
    · rw [joinS_new ht h4]
      have hp := placeS_leq ls c
      have hl := h.len
      refine ⟨hs.low, hs.high, by simp [List.length_take, List.length_drop]; omega, fun x hx => ?_, ?_⟩
      · rcases List.mem_append.1 hx with hx | hx
        · exact hs.fine x (List.mem_of_mem_take hx)
        · rcases List.mem_cons.1 hx with rfl | hx
          · exact ⟨rangeB_iff.2 (by simp only; omega), rfl⟩
          · exact hs.fine x (List.mem_of_mem_drop hx)
      · refine List.pairwise_append.2 ⟨h.order.sublist (List.take_sublist _ _), List.pairwise_cons.2 ⟨fun y hy => ?_, h.order.sublist (List.drop_sublist _ _)⟩, fun x hx y hy => ?_⟩
        · obtain ⟨j, hj⟩ := List.mem_iff_getElem?.1 hy
          rw [List.getElem?_drop] at hj
          exact after_place h.order ht (by omega) hj
        · obtain ⟨a, ha⟩ := List.mem_iff_getElem?.1 hx
          have hal : a < placeS ls c := by have := (List.getElem?_eq_some_iff.1 ha).1; rw [List.length_take] at this; omega
          rw [List.getElem?_take_of_lt hal] at ha
          have h1 := placeS_lt hal ha
          rcases List.mem_cons.1 hy with rfl | hy
          · exact h1
          · obtain ⟨j, hj⟩ := List.mem_iff_getElem?.1 hy
            rw [List.getElem?_drop] at hj
            have := after_place h.order ht (by omega) hj
            omega

theorem hasC_join {ls : List SessD} {i c a : Int} (ha : HasC ls a) : HasC (joinS ls i c).1 a := by
  cases ht : thereS ls c with
  | true =>
    obtain ⟨x, hx, e⟩ := thereS_some ht
    rw [joinS_there ht hx]
    exact (hasC_put (y := { x with last := i + 1 }) hx rfl a).2 ha
  | false =>
    by_cases h4 : ls.length = 4
    · rw [joinS_full ht h4]; exact ha
    · rw [joinS_new ht h4]
      obtain ⟨x, hx, e⟩ := ha
      refine ⟨x, ?_, e⟩
      rw [← List.take_append_drop (placeS ls c) ls] at hx
      rcases List.mem_append.1 hx with hx | hx
      · exact List.mem_append_left _ hx
      · exact List.mem_append_right _ (List.mem_cons_of_mem _ hx)

theorem hasC_leave {ls : List SessD} {c a : Int} (ha : HasC ls a) (hne : a ≠ c) : HasC (leaveS ls c).1 a := by
  cases ht : thereS ls c with
  | false => rw [leaveS_away ht]; exact ha
  | true =>
    rw [leaveS_there ht]
    obtain ⟨y, hy, ey⟩ := thereS_some ht
    obtain ⟨x, hx, e⟩ := ha
    obtain ⟨j, hj⟩ := List.mem_iff_getElem?.1 hx
    refine ⟨x, ?_, e⟩
    have hjn : j ≠ placeS ls c := by
      rintro rfl
      rw [hy] at hj
      cases hj
      omega
    exact List.mem_eraseIdx_iff_getElem?.2 ⟨j, hjn, hj⟩

/-- A session that heard a call may be. -/
theorem hearD_fine {i q u : Int} {x : SessD} (h : Fine i x) (hq : q ≤ 1048576) (hu : u ≤ q - 1) : Fine (i + 1) (hearD x (i + 1) u) := by
  have hr := rangeB_iff.1 h.range
  refine ⟨rangeB_iff.2 (by unfold hearD; simp only; omega), ?_⟩
  have hm := formFrom_mem h.form
  refine formFrom_of (fun k hk => ?_) ((formFrom_rise h.form).filter _)
  obtain ⟨h1, h2⟩ := List.mem_filter.1 hk
  have h3 := hm k h1
  have h4 : ¬ k.seq ≤ max x.acked u := by simpa using h2
  refine ⟨?_, ?_, h3.2.2⟩
  · show max x.acked u < k.seq; omega
  · show k.seq ≤ max x.acked u + 4; omega

theorem placeK_lt {ks : List KeptD} {q : Int} {j : Nat} {k : KeptD} (hj : j < placeK ks q) (hk : ks[j]? = some k) : k.seq < q := by
  have := List.not_of_lt_findIdx (p := fun k : KeptD => decide (q ≤ k.seq)) (xs := ks) hj
  obtain ⟨hl, he⟩ := List.getElem?_eq_some_iff.1 hk
  rw [he] at this
  simpa using this

theorem placeK_ge {ks : List KeptD} {q : Int} {k : KeptD} (hk : ks[placeK ks q]? = some k) : q ≤ k.seq := by
  obtain ⟨hl, he⟩ := List.getElem?_eq_some_iff.1 hk
  have h : decide (q ≤ (ks[placeK ks q]'hl).seq) = true := List.findIdx_getElem (w := hl)
  rw [he] at h
  simpa using h

theorem orderK_at {ks : List KeptD} (h : ks.Pairwise (fun a b => a.seq < b.seq)) {i j : Nat} {x y : KeptD} (hij : i < j) (hx : ks[i]? = some x) (hy : ks[j]? = some y) : x.seq < y.seq := by
  obtain ⟨hi, rfl⟩ := List.getElem?_eq_some_iff.1 hx
  obtain ⟨hj, rfl⟩ := List.getElem?_eq_some_iff.1 hy
  exact List.pairwise_iff_getElem.1 h i j hi hj hij

theorem afterK {ks : List KeptD} (h : ks.Pairwise (fun a b => a.seq < b.seq)) {q : Int} (ht : thereK ks q = false) {j : Nat} {k : KeptD} (hj : placeK ks q ≤ j) (hk : ks[j]? = some k) : q < k.seq := by
  have hl : j < ks.length := (List.getElem?_eq_some_iff.1 hk).1
  have hp : placeK ks q < ks.length := by omega
  have hy : ks[placeK ks q]? = some ks[placeK ks q] := List.getElem?_eq_getElem hp
  have h1 := placeK_ge hy
  have h2 : ks[placeK ks q].seq ≠ q := by
    unfold thereK at ht
    rw [hy] at ht
    simpa using ht
  by_cases e : placeK ks q = j
  · subst e
    rw [hy] at hk
    cases hk
    omega
  · have := orderK_at h (by omega) hy hk
    omega

/-- One reply more keeps the form. -/
theorem withK_form {a : Int} {ks : List KeptD} {k : KeptD} (h : formFrom a a ks = true) (ht : thereK ks k.seq = false) (h1 : a < k.seq) (h2 : k.seq ≤ a + 4) (hk : keptB k = true) : formFrom a a (withK ks k) = true := by
  have hm := formFrom_mem h
  have hr := formFrom_rise h
  have hp : placeK ks k.seq ≤ ks.length := List.findIdx_le_length
  unfold withK
  refine formFrom_of (fun y hy => ?_) ?_
  · rcases List.mem_append.1 hy with hy | hy
    · exact hm y (List.mem_of_mem_take hy)
    · rcases List.mem_cons.1 hy with rfl | hy
      · exact ⟨h1, h2, hk⟩
      · exact hm y (List.mem_of_mem_drop hy)
  · refine List.pairwise_append.2 ⟨hr.sublist (List.take_sublist _ _), List.pairwise_cons.2 ⟨fun y hy => ?_, hr.sublist (List.drop_sublist _ _)⟩, fun x hx y hy => ?_⟩
    · obtain ⟨j, hj⟩ := List.mem_iff_getElem?.1 hy
      rw [List.getElem?_drop] at hj
      exact afterK hr ht (by omega) hj
    · obtain ⟨b, hb⟩ := List.mem_iff_getElem?.1 hx
      have hbl : b < placeK ks k.seq := by have := (List.getElem?_eq_some_iff.1 hb).1; rw [List.length_take] at this; omega
      rw [List.getElem?_take_of_lt hbl] at hb
      have h1 := placeK_lt hbl hb
      rcases List.mem_cons.1 hy with rfl | hy
      · exact h1
      · obtain ⟨j, hj⟩ := List.mem_iff_getElem?.1 hy
        rw [List.getElem?_drop] at hj
        have := afterK hr ht (by omega) hj
        omega

/-- A call that is to be done: its session is there, and has no reply of that number. -/
theorem answerD_yes {x : SessD} {q : Int} (h : (answerD x q).2 = true) : x.acked < q ∧ q ≤ x.acked + 4 ∧ thereK x.replies q = false := by
  unfold answerD at h
  split at h
  · cases h
  · rename_i h1
    split at h
    · cases h
    · rename_i h2
      split at h
      · cases h
      · refine ⟨by omega, by omega, ?_⟩
        cases ht : thereK x.replies q with
        | false => rfl
        | true =>
          exfalso
          unfold thereK at ht
          cases hk : x.replies[placeK x.replies q]? with
          | none => rw [hk] at ht; cases ht
          | some k => exact h2 k (by unfold thereK; rw [hk] at ht ⊢; exact ht) hk

theorem readyS_todo {ls : List SessD} {i c s q u : Int} (h : (readyS ls i c s q u).2.2 = true) : ∃ x, thereS ls c = true ∧ ls[placeS ls c]? = some x ∧ x.client = c ∧ x.id = s ∧ (readyS ls i c s q u).1 = ls.set (placeS ls c) (hearD x (i + 1) u) ∧ (answerD (hearD x (i + 1) u) q).2 = true ∧ (readyS ls i c s q u).2 = answerD (hearD x (i + 1) u) q := by
  cases ht : thereS ls c with
  | false => rw [readyS_away ht] at h; cases h
  | true =>
    obtain ⟨x, hx, e⟩ := thereS_some ht
    by_cases hs : x.id = s
    · have er := readyS_here (i := i) (q := q) (u := u) ht hx hs
      rw [er] at h
      exact ⟨x, rfl, hx, e, hs, by rw [er], h, by rw [er]⟩
    · rw [readyS_other ht hx hs] at h; cases h

theorem GoodS.ready {ls : List SessD} {i : Int} (h : GoodS ls i) (hi : i < 1073741824) (c s : Int) {q u : Int} (hq : q ≤ 1048576) (hu : u ≤ q - 1) : GoodS (readyS ls i c s q u).1 (i + 1) := by
  have hs := h.step (j := i + 1) (by omega) (by omega)
  cases ht : thereS ls c with
  | false => rw [readyS_away ht]; exact hs
  | true =>
    obtain ⟨x, hx, e⟩ := thereS_some ht
    by_cases hsn : x.id = s
    · rw [readyS_here ht hx hsn]
      exact hs.put hx rfl (hearD_fine (h.fine x (List.mem_of_getElem? hx)) hq hu)
    · rw [readyS_other ht hx hsn]; exact hs

theorem hasC_ready {ls : List SessD} {i c s q u : Int} (a : Int) : HasC (readyS ls i c s q u).1 a ↔ HasC ls a := by
  cases ht : thereS ls c with
  | false => rw [readyS_away ht]
  | true =>
    obtain ⟨x, hx, e⟩ := thereS_some ht
    by_cases hsn : x.id = s
    · rw [readyS_here ht hx hsn]; exact hasC_put (y := hearD x (i + 1) u) hx rfl a
    · rw [readyS_other ht hx hsn]

/-- The place of a client does not turn where one session is put anew. -/
theorem place_put {ls : List SessD} (h : ls.Pairwise (fun a b => a.client < b.client)) {p : Nat} {x y : SessD} (hx : ls[p]? = some x) (hc : y.client = x.client) : placeS (ls.set p y) x.client = p ∧ (ls.set p y)[p]? = some y ∧ thereS (ls.set p y) x.client = true := by
  have hp := (List.getElem?_eq_some_iff.1 hx).1
  have hself : (ls.set p y)[p]? = some y := List.getElem?_set_self hp
  have e : placeS (ls.set p y) x.client = p := by
    have hlt : placeS (ls.set p y) x.client ≤ p := by
      by_cases hh : p < placeS (ls.set p y) x.client
      · have := placeS_lt hh hself; omega
      · omega
    have hge : p ≤ placeS (ls.set p y) x.client := by
      by_cases hh : placeS (ls.set p y) x.client < p
      · exfalso
        have hl : placeS (ls.set p y) x.client < (ls.set p y).length := by rw [List.length_set]; omega
        have hz := List.getElem?_eq_getElem hl
        have h1 := placeS_ge hz
        have hz' : ls[placeS (ls.set p y) x.client]? = some (ls.set p y)[placeS (ls.set p y) x.client] := by
          rw [← hz, List.getElem?_set_ne (by omega)]
        have := order_at h hh hz' hx
        omega
      · omega
    omega
  refine ⟨e, hself, ?_⟩
  unfold thereS
  rw [e, hself]
  simpa using hc

/-- Behind a call that is to be done its reply can be kept. -/
theorem keep_ready {ls : List SessD} {i : Int} (h : GoodS ls i) (hi : i < 1073741824) {c s q u : Int} (hq : q ≤ 1048576) (hu : u ≤ q - 1) (ht : (readyS ls i c s q u).2.2 = true) {rc rn : Int} {rt : ByteArray} (hr : replyB rc rn rt.size = true) :
    keepE (readyS ls i c s q u).1 (i + 1) c ⟨q, rc, rn, rt⟩ = 0 ∧ GoodS (keepS (readyS ls i c s q u).1 c ⟨q, rc, rn, rt⟩) (i + 1) ∧ ∀ a, HasC (keepS (readyS ls i c s q u).1 c ⟨q, rc, rn, rt⟩) a ↔ HasC ls a := by
  have hg := h.ready hi c s hq hu
  obtain ⟨x, -, hx, e, -, er, ha, -⟩ := readyS_todo ht
  obtain ⟨a1, a2, a3⟩ := answerD_yes ha
  have hf := hearD_fine (u := u) (h.fine x (List.mem_of_getElem? hx)) hq hu
  have hhc := hasC_ready (ls := ls) (i := i) (c := c) (s := s) (q := q) (u := u)
  rw [er] at hg hhc ⊢
  obtain ⟨p1, p2, p3⟩ := place_put h.order hx (y := hearD x (i + 1) u) rfl
  rw [e] at p1 p3
  have p2' : (ls.set (placeS ls c) (hearD x (i + 1) u))[placeS (ls.set (placeS ls c) (hearD x (i + 1) u)) c]? = some (hearD x (i + 1) u) := by rw [p1]; exact p2
  have hw : formFrom (hearD x (i + 1) u).acked (hearD x (i + 1) u).acked (withK (hearD x (i + 1) u).replies ⟨q, rc, rn, rt⟩) = true := withK_form hf.form a3 a1 a2 hr
  refine ⟨keepE_ok (checkS_of hg) p3 p2' a3 hw, ?_, fun a => ?_⟩
  · rw [keepS_there p2']
    exact hg.put p2' rfl ⟨hf.range, hw⟩
  · rw [keepS_there p2', hasC_put (y := { hearD x (i + 1) u with replies := withK (hearD x (i + 1) u).replies ⟨q, rc, rn, rt⟩ }) p2' rfl a]
    exact hhc a

end Go.Proofs.YtijilhbdbeajjaaGreatDoor

namespace Go.Proofs.YtijilhbdbeajjaaGreatDoor

open Go.RowKit

theorem PairD.ext' {x y : PairD} (h1 : x.name = y.name) (h2 : x.value = y.value) (h3 : x.version = y.version) : x = y := by
  cases x; cases y; simp_all

/-- Setting keeps pairs such that may be. -/
theorem setP_good {ps : List PairD} {nm val : ByteArray} (h : GoodP ps) (hn : nameB nm = true) (hv : val.size ≤ 12) : GoodP (setP ps nm val).1 := by
  cases ht : thereP ps nm with
  | true =>
    obtain ⟨x, hx, he⟩ := thereP_yes ht
    have hxx := h.each x (List.mem_of_getElem? hx)
    by_cases hf : x.version = 1073741824
    · rw [setP_full hx he hf]; exact h
    · rw [setP_there hx he hf]
      have key : ∀ (j : Nat) (y : PairD), (ps.set (placeP ps nm) ⟨x.name, val, x.version + 1⟩)[j]? = some y → ∃ z, ps[j]? = some z ∧ z.name = y.name := by
        intro j y hy
        by_cases e : placeP ps nm = j
        · subst e
          have hl := (List.getElem?_eq_some_iff.1 hx).1
          rw [List.getElem?_set_self hl] at hy
          cases hy
          exact ⟨x, hx, rfl⟩
        · rw [List.getElem?_set_ne e] at hy
          exact ⟨y, hy, rfl⟩
      refine ⟨by rw [List.length_set]; exact h.len, fun y hy => ?_, fun i j y z hij hy hz => ?_⟩
      · rcases List.mem_or_eq_of_mem_set hy with hy | rfl
        · exact h.each y hy
        · exact ⟨hxx.1, hv, by show 1 ≤ x.version + 1; omega, by show x.version + 1 ≤ 1073741824; omega⟩
      · obtain ⟨y', hy', ey⟩ := key i y hy
        obtain ⟨z', hz', ez⟩ := key j z hz
        rw [← ey, ← ez]
        exact h.order i j y' z' hij hy' hz'
  | false =>
    by_cases hf : ps.length = 5
    · rw [setP_noroom ht hf]; exact h
    · rw [setP_new ht hf]
      have hle := placeP_le ps nm
      have hlen := h.len
      refine ⟨?_, fun y hy => ?_, fun i j y z hij hy hz => ?_⟩
      · simp only [List.length_append, List.length_take, List.length_cons, List.length_drop]; omega
      · rcases List.mem_append.1 hy with hy | hy
        · exact h.each y (List.mem_of_mem_take hy)
        · rcases List.mem_cons.1 hy with rfl | hy
          · exact ⟨hn, hv, by show (1 : Int) ≤ 1; omega, by show (1 : Int) ≤ 1073741824; omega⟩
          · exact h.each y (List.mem_of_mem_drop hy)
      · have get : ∀ (k : Nat) (u : PairD), (ps.take (placeP ps nm) ++ ⟨nm, val, 1⟩ :: ps.drop (placeP ps nm))[k]? = some u → (k < placeP ps nm ∧ ps[k]? = some u) ∨ (k = placeP ps nm ∧ u = ⟨nm, val, 1⟩) ∨ (placeP ps nm < k ∧ ps[k - 1]? = some u) := by
          intro k u hu
          have hlt : (ps.take (placeP ps nm)).length = placeP ps nm := by rw [List.length_take]; omega
          by_cases a : k < placeP ps nm
          · rw [List.getElem?_append_left (by omega), List.getElem?_take_of_lt a] at hu
            exact Or.inl ⟨a, hu⟩
          · rw [List.getElem?_append_right (by omega), hlt] at hu
            by_cases b : k = placeP ps nm
            · subst b
              rw [Nat.sub_self, List.getElem?_cons_zero] at hu
              exact Or.inr (Or.inl ⟨rfl, by simpa using hu.symm⟩)
            · rw [show k - placeP ps nm = (k - placeP ps nm - 1) + 1 by omega, List.getElem?_cons_succ, List.getElem?_drop, show placeP ps nm + (k - placeP ps nm - 1) = k - 1 by omega] at hu
              exact Or.inr (Or.inr ⟨by omega, hu⟩)
        have above : ∀ (k : Nat) (u : PairD), placeP ps nm ≤ k → ps[k]? = some u → ltP nm u.name = true := by
          intro k u hk hu
          have hkl : k < ps.length := (List.getElem?_eq_some_iff.1 hu).1
          have hpl : placeP ps nm < ps.length := by omega
          have hx : ps[placeP ps nm]? = some ps[placeP ps nm] := List.getElem?_eq_getElem hpl
          have hgt : ltP nm ps[placeP ps nm].name = true := ltP_total (placeP_at hx) (thereP_no h ht _ _ hx)
          by_cases e : placeP ps nm = k
          · subst e
            rw [hx] at hu
            cases hu
            exact hgt
          · exact ltP_trans hgt (h.order _ k _ u (by omega) hx hu)
        rcases get i y hy with ⟨a1, a2⟩ | ⟨a1, rfl⟩ | ⟨a1, a2⟩
        · rcases get j z hz with ⟨b1, b2⟩ | ⟨b1, rfl⟩ | ⟨b1, b2⟩
          · exact h.order i j y z hij a2 b2
          · exact placeP_before a1 a2
          · exact h.order i (j - 1) y z (by omega) a2 b2
        · rcases get j z hz with ⟨b1, b2⟩ | ⟨b1, rfl⟩ | ⟨b1, b2⟩
          · omega
          · omega
          · exact above (j - 1) z (by omega) b2
        · rcases get j z hz with ⟨b1, b2⟩ | ⟨b1, rfl⟩ | ⟨b1, b2⟩
          · omega
          · omega
          · exact h.order (i - 1) (j - 1) y z (by omega) a2 b2

theorem setP_rep {ps : List PairD} {nm val : ByteArray} (h : GoodP ps) : 0 ≤ (setP ps nm val).2.1 ∧ (setP ps nm val).2.1 ≤ 15 ∧ 0 ≤ (setP ps nm val).2.2 ∧ (setP ps nm val).2.2 ≤ 1073741824 := by
  unfold setP
  split
  · rename_i x hx
    have hxx := h.each x (List.mem_of_getElem? hx)
    split
    · split
      · simp
      · simp only; omega
    · split <;> simp
  · split <;> simp

theorem getP_rep {ps : List PairD} {nm : ByteArray} (h : GoodP ps) : 0 ≤ (getP ps nm).1 ∧ (getP ps nm).1 ≤ 15 ∧ 0 ≤ (getP ps nm).2.1 ∧ (getP ps nm).2.1 ≤ 1073741824 ∧ (getP ps nm).2.2.size ≤ 12 := by
  have e0 : (⟨#[]⟩ : ByteArray).size = 0 := rfl
  unfold getP
  split
  · rename_i x hx
    have hxx := h.each x (List.mem_of_getElem? hx)
    split
    · simp only; omega
    · simp [e0]
  · simp [e0]

end Go.Proofs.YtijilhbdbeajjaaGreatDoor

namespace Go.Proofs.YtijilhbdbeajjaaGreatDoor

open Go.RowKit

/-- Has the client one of these sessions? -/
def hasS (ls : List SessD) (c : Int) : Bool := ls.any fun x => decide (x.client = c)

theorem hasS_iff {ls : List SessD} {c : Int} : hasS ls c = true ↔ HasC ls c := by
  unfold hasS HasC
  rw [List.any_eq_true]
  constructor
  · rintro ⟨x, hx, e⟩
    exact ⟨x, hx, by simpa using e⟩
  · rintro ⟨x, hx, e⟩
    exact ⟨x, hx, by simpa using e⟩

/-- The locks behind clients of whom no session is fresh. -/
def dropL (fresh : List SessD) (ks : List LockD) (ss : List SessD) : List LockD := ss.foldl (fun ks x => if hasS fresh x.client = true then ks else goneL ks x.client) ks

/-- Without what is idle. -/
def dropM (s : StateD) : StateD := { s with locks := dropL (freshS s.sess s.index) s.locks s.sess, sess := freshS s.sess s.index }

/-- What an operation does, and its reply. -/
def operM (s : StateD) (c k : Int) (a b : ByteArray) (n : Int) : StateD × ReplyD :=
  if k = 1 then ({ s with locks := (takeL s.locks a c false).1 }, ⟨(takeL s.locks a c false).2.1, (takeL s.locks a c false).2.2, ⟨#[]⟩⟩)
  else if k = 2 then ({ s with locks := (takeL s.locks a c true).1 }, ⟨(takeL s.locks a c true).2.1, (takeL s.locks a c true).2.2, ⟨#[]⟩⟩)
  else if k = 3 then ({ s with locks := (freeL s.locks a c).1 }, ⟨(freeL s.locks a c).2.1, (freeL s.locks a c).2.2, ⟨#[]⟩⟩)
  else if k = 4 then (s, ⟨0, (whoL s.locks a).1, ⟨#[]⟩⟩)
  else if k = 5 then (if (whoL s.locks a).1 = c ∧ (whoL s.locks a).2 = n then ({ s with pairs := (setP s.pairs a b).1 }, ⟨(setP s.pairs a b).2.1, (setP s.pairs a b).2.2, ⟨#[]⟩⟩) else (s, ⟨10, (whoL s.locks a).1, ⟨#[]⟩⟩))
  else (s, ⟨(getP s.pairs a).1, (getP s.pairs a).2.1, (getP s.pairs a).2.2⟩)

/-- A call, and its reply. -/
def callM (s : StateD) (x : CmdD) : StateD × ReplyD :=
  if (readyS s.sess s.index x.client x.session x.seq x.acked).2.2 = true then
    ({ (operM { s with sess := (readyS s.sess s.index x.client x.session x.seq x.acked).1 } x.client x.ok x.a x.b x.n).1 with
        sess := keepS (readyS s.sess s.index x.client x.session x.seq x.acked).1 x.client ⟨x.seq, (operM { s with sess := (readyS s.sess s.index x.client x.session x.seq x.acked).1 } x.client x.ok x.a x.b x.n).2.code, (operM { s with sess := (readyS s.sess s.index x.client x.session x.seq x.acked).1 } x.client x.ok x.a x.b x.n).2.n, (operM { s with sess := (readyS s.sess s.index x.client x.session x.seq x.acked).1 } x.client x.ok x.a x.b x.n).2.text⟩ },
      (operM { s with sess := (readyS s.sess s.index x.client x.session x.seq x.acked).1 } x.client x.ok x.a x.b x.n).2)
  else ({ s with sess := (readyS s.sess s.index x.client x.session x.seq x.acked).1 }, (readyS s.sess s.index x.client x.session x.seq x.acked).2.1)

/-- A command, and its reply. -/
def obeyM (s : StateD) (x : CmdD) : StateD × ReplyD :=
  if x.kind = 1 then ({ s with sess := (joinS s.sess s.index x.client).1 }, (joinS s.sess s.index x.client).2)
  else if x.kind = 3 then ({ s with locks := goneL s.locks x.client, sess := (leaveS s.sess x.client).1 }, (leaveS s.sess x.client).2)
  else callM s x

/-- The next entry: the state behind it, and its reply. -/
def applyM (s : StateD) (x : CmdD) : StateD × ReplyD :=
  ({ (obeyM (dropM s) x).1 with index := s.index + 1 }, (obeyM (dropM s) x).2)

/-- A state that may be. -/
structure GoodM (s : StateD) : Prop where
  sess : GoodS s.sess s.index
  locks : GoodL s.locks
  pairs : GoodP s.pairs

theorem GoodM.of {s : StateD} (h : checkM s = 0) : GoodM s := by
  obtain ⟨h1, h2, h3⟩ := checkM_zero h
  exact ⟨checkS_zero h1, GoodL.of h2, checkP_good h3⟩

theorem GoodM.check {s : StateD} (h : GoodM s) : checkM s = 0 := by
  rw [checkM_pairs (checkS_of h.sess) h.locks.check]
  exact h.pairs.check

theorem GoodL.drop {fresh : List SessD} {ss : List SessD} : ∀ {ks : List LockD}, GoodL ks → GoodL (dropL fresh ks ss) := by
  induction ss with
  | nil => intro ks h; exact h
  | cons x r ih =>
    intro ks h
    unfold dropL
    rw [List.foldl_cons]
    refine ih ?_
    split
    · exact h
    · exact h.gone _

/-- Behind the idle ones all that have locks are fresh, or had no session. -/
theorem holds_drop {fresh : List SessD} {ss : List SessD} : ∀ {ks : List LockD} {H : Int → Prop}, GoodL ks → (∀ x ∈ ss, 1 ≤ x.client) → Holds H ks → Holds (fun a => H a ∧ ∀ x ∈ ss, hasS fresh x.client = false → a ≠ x.client) (dropL fresh ks ss) := by
  induction ss with
  | nil => intro ks H _ _ h; exact h.mono fun a ha => ⟨ha, fun x hx => by cases hx⟩
  | cons x r ih =>
    intro ks H hg hc h
    unfold dropL
    rw [List.foldl_cons]
    split
    · rename_i hf
      refine (ih hg (fun y hy => hc y (by simp [hy])) h).mono fun a ha => ⟨ha.1, fun y hy hn => ?_⟩
      rcases List.mem_cons.1 hy with rfl | hy
      · rw [hf] at hn; cases hn
      · exact ha.2 y hy hn
    · refine (ih (hg.gone _) (fun y hy => hc y (by simp [hy])) (h.gone hg (hc x (by simp)))).mono fun a ha => ⟨ha.1.1, fun y hy hn => ?_⟩
      rcases List.mem_cons.1 hy with rfl | hy
      · exact ha.1.2
      · exact ha.2 y hy hn

/-- All that have a lock, or stand in a line, have a session. -/
def HeldM (s : StateD) : Prop := Holds (HasC s.sess) s.locks

theorem GoodM.drop {s : StateD} (h : GoodM s) : GoodM (dropM s) := ⟨h.sess.fresh _, h.locks.drop, h.pairs⟩

theorem HeldM.drop {s : StateD} (h : HeldM s) (hg : GoodM s) : HeldM (dropM s) := by
  refine (holds_drop hg.locks (fun x hx => ?_) h).mono fun a ha => ?_
  · have := rangeB_iff.1 (hg.sess.fine x hx).range
    exact this.1
  · obtain ⟨⟨x, hx, e⟩, h2⟩ := ha
    show HasC (freshS s.sess s.index) a
    rw [← hasS_iff]
    cases hn : hasS (freshS s.sess s.index) a with
    | true => rfl
    | false => exact absurd e.symm (h2 x hx (by rw [e]; exact hn))

/-- An operation that may be asked. -/
structure OpOk (c k : Int) (a b : ByteArray) (n : Int) : Prop where
  client : 1 ≤ c ∧ c ≤ 9
  kind : 1 ≤ k ∧ k ≤ 6
  name : nameB a = true
  value : b.size ≤ 12

theorem opE_zero {k : Int} {a b : ByteArray} {n : Int} (h : opE k a b n = 0) : (1 ≤ k ∧ k ≤ 6) ∧ nameB a = true ∧ b.size ≤ 12 := by
  unfold opE at h
  by_cases h1 : 1 ≤ k ∧ k ≤ 6
  · rw [if_neg (by simpa using h1)] at h
    by_cases h2 : nameB a = false ∨ (k ≠ 5 ∧ b.size ≠ 0)
    · rw [if_pos h2] at h; cases h
    · rw [if_neg h2] at h
      by_cases h3 : 12 < b.size
      · rw [if_pos h3] at h; cases h
      · refine ⟨h1, ?_, by omega⟩
        cases hn : nameB a with
        | true => rfl
        | false => exact absurd (Or.inl hn) h2
  · rw [if_pos h1] at h; cases h

/-- What a Call that may be keeps to. -/
theorem cmdE_parts {k c s q u ok : Int} {a b : ByteArray} {n : Int} (h : cmdE k c s q u ok a b n = 0) : (1 ≤ k ∧ k ≤ 3) ∧ (1 ≤ c ∧ c ≤ 9) ∧ (k = 2 → (1 ≤ s ∧ s ≤ 1073741824) ∧ (1 ≤ q ∧ q ≤ 1048576) ∧ (0 ≤ u ∧ u ≤ q - 1) ∧ opE ok a b n = 0) := by
  unfold cmdE at h
  by_cases h1 : 1 ≤ k ∧ k ≤ 3
  · rw [if_neg (by simpa using h1)] at h
    by_cases h2 : 1 ≤ c ∧ c ≤ 9
    · rw [if_neg (by simpa using h2)] at h
      refine ⟨h1, h2, fun hk => ?_⟩
      rw [if_pos hk] at h
      by_cases h3 : (1 ≤ s ∧ s ≤ 1073741824) ∧ (1 ≤ q ∧ q ≤ 1048576) ∧ (0 ≤ u ∧ u ≤ q - 1)
      · rw [if_pos h3] at h
        exact ⟨h3.1, h3.2.1, h3.2.2, h⟩
      · rw [if_neg h3] at h; cases h
    · rw [if_pos h2] at h; cases h
  · rw [if_pos h1] at h; cases h

/-- What an operation does to what may be. -/
theorem operM_good {s : StateD} (hl : GoodL s.locks) (hp : GoodP s.pairs) {c k : Int} {a b : ByteArray} {n : Int} (ho : OpOk c k a b n) :
    GoodL (operM s c k a b n).1.locks ∧ GoodP (operM s c k a b n).1.pairs ∧ replyB (operM s c k a b n).2.code (operM s c k a b n).2.n (operM s c k a b n).2.text.size = true ∧ (operM s c k a b n).1.index = s.index ∧ (operM s c k a b n).1.sess = s.sess := by
  obtain ⟨c1, c2⟩ := ho.client
  have e0 : (⟨#[]⟩ : ByteArray).size = 0 := rfl
  unfold operM
  split
  · have := hl.takeRep a c false
    exact ⟨hl.take ho.name c1 c2 false, hp, replyB_iff.2 ⟨this.1, this.2.1, this.2.2.1, this.2.2.2, by simp only; omega⟩, rfl, rfl⟩
  · split
    · have := hl.takeRep a c true
      exact ⟨hl.take ho.name c1 c2 true, hp, replyB_iff.2 ⟨this.1, this.2.1, this.2.2.1, this.2.2.2, by simp only; omega⟩, rfl, rfl⟩
    · split
      · have := hl.freeRep a c
        exact ⟨hl.free a c, hp, replyB_iff.2 ⟨this.1, this.2.1, this.2.2.1, this.2.2.2, by simp only; omega⟩, rfl, rfl⟩
      · split
        · have := hl.whoRep a
          exact ⟨hl, hp, replyB_iff.2 (by simp only; omega), rfl, rfl⟩
        · split
          · split
            · have := setP_rep (val := b) hp (nm := a)
              exact ⟨hl, setP_good hp ho.name ho.value, replyB_iff.2 (by simp only; omega), rfl, rfl⟩
            · have := hl.whoRep a
              exact ⟨hl, hp, replyB_iff.2 (by simp only; omega), rfl, rfl⟩
          · have := getP_rep hp (nm := a)
            exact ⟨hl, hp, replyB_iff.2 (by simp only; omega), rfl, rfl⟩

theorem operM_holds {H : Int → Prop} {s : StateD} (h : Holds H s.locks) {c k : Int} {a b : ByteArray} {n : Int} (hc : H c) : Holds H (operM s c k a b n).1.locks := by
  unfold operM
  split
  · exact h.take a hc false
  · split
    · exact h.take a hc true
    · split
      · exact h.free a c
      · split
        · exact h
        · split
          · split
            · exact h
            · exact h
          · exact h

/-- A command that may be obeyed: what is asked of the state on the way. -/
theorem callM_good {s : StateD} (h : GoodM s) (hi : s.index < 1073741824) {x : CmdD} (hx : x.err = 0) (hk : x.kind = 2) :
    GoodM { (callM s x).1 with index := s.index + 1 } ∧ (HeldM s → HeldM { (callM s x).1 with index := s.index + 1 }) := by
  obtain ⟨-, hc, h2⟩ := cmdE_parts hx
  obtain ⟨-, hq, hu, ho⟩ := h2 hk
  obtain ⟨o1, o2, o3⟩ := opE_zero ho
  have hop : OpOk x.client x.ok x.a x.b x.n := ⟨hc, o1, o2, o3⟩
  have hr := h.sess.ready hi x.client x.session (q := x.seq) (u := x.acked) hq.2 hu.2
  have hrc := fun a => hasC_ready (ls := s.sess) (i := s.index) (c := x.client) (s := x.session) (q := x.seq) (u := x.acked) a
  unfold callM
  split
  · rename_i ht
    obtain ⟨g1, g2, g3, g4, g5⟩ := operM_good (s := { s with sess := (readyS s.sess s.index x.client x.session x.seq x.acked).1 }) h.locks h.pairs hop
    obtain ⟨k1, k2, k3⟩ := keep_ready h.sess hi hq.2 hu.2 ht g3
    refine ⟨⟨k2, g1, g2⟩, fun hh => ?_⟩
    obtain ⟨y, -, hy, e, -⟩ := readyS_todo ht
    have hcc : HasC s.sess x.client := ⟨y, List.mem_of_getElem? hy, e⟩
    exact (operM_holds (H := HasC s.sess) (s := { s with sess := (readyS s.sess s.index x.client x.session x.seq x.acked).1 }) hh hcc).mono fun a ha => (k3 a).2 ha
  · exact ⟨⟨hr, h.locks, h.pairs⟩, fun hh => hh.mono fun a ha => (hrc a).2 ha⟩

theorem obeyM_good {s : StateD} (h : GoodM s) (hi : s.index < 1073741824) {x : CmdD} (hx : x.err = 0) :
    GoodM { (obeyM s x).1 with index := s.index + 1 } ∧ (HeldM s → HeldM { (obeyM s x).1 with index := s.index + 1 }) := by
  obtain ⟨hk, hc, -⟩ := cmdE_parts hx
  unfold obeyM
  split
  · refine ⟨⟨h.sess.join hi hc.1 hc.2, h.locks, h.pairs⟩, fun hh => hh.mono fun a ha => hasC_join ha⟩
  · split
    · have hs : GoodS (leaveS s.sess x.client).1 (s.index + 1) := (h.sess.leave _).step (by omega) (by omega)
      refine ⟨⟨hs, h.locks.gone _, h.pairs⟩, fun hh => ?_⟩
      exact (Holds.gone hh h.locks hc.1).mono fun a ha => hasC_leave ha.1 ha.2
    · exact callM_good h hi hx (by omega)

/-- WHATEVER COMES a state stays one that may be; who has a lock has a session. -/
theorem applyM_good {s : StateD} (h : GoodM s) (hi : s.index < 1073741824) {x : CmdD} (hx : x.err = 0) : GoodM (applyM s x).1 ∧ (HeldM s → HeldM (applyM s x).1) := by
  have k := obeyM_good (s := dropM s) h.drop hi hx
  exact ⟨k.1, fun hh => k.2 (hh.drop h)⟩

theorem applyM_index (s : StateD) (x : CmdD) : (applyM s x).1.index = s.index + 1 := rfl

end Go.Proofs.YtijilhbdbeajjaaGreatDoor

namespace Go.Proofs.YtijilhbdbeajjaaGreatDoor

open Go.RowKit

theorem prow_keep {w w' : World} {base : Nat} {e : TypeId} {size : Nat} {v : Value} {n : Nat} {xs : List Value} (h : w.ownsRow base e size v n xs) (hk : ∀ b, v.ownBlock = some b → w'.heap[b]? = w.heap[b]?) : w'.ownsRow base e size v n xs := by
  obtain ⟨h1, h2⟩ := h
  refine ⟨h1, ?_⟩
  rcases h2 with h2 | ⟨g, cap, cur, rfl, hg, hh, r⟩
  · exact Or.inl h2
  · exact Or.inr ⟨g, cap, cur, rfl, hg, by rw [hk g rfl]; exact hh, r⟩

theorem prow_below {w w' : World} {base : Nat} {e : TypeId} {size : Nat} {v : Value} {n : Nat} {xs : List Value} (h : w.ownsRow base e size v n xs) {B : Nat} (hb : Below B w w') (hB : w.heap.size ≤ B) : w'.ownsRow base e size v n xs :=
  prow_keep h fun b hbk => hb.block b (by have := (h.lt b hbk).2; omega)

/-- A row with something in it lies in a block. -/
theorem prow_some {w : World} {base : Nat} {e : TypeId} {size : Nat} {v : Value} {n : Nat} {xs : List Value} (h : w.ownsRow base e size v n xs) (hn : 0 < n) : ∃ g cap, v = .slice (some ⟨g, 0, none⟩) n cap ∧ base ≤ g ∧ g < w.heap.size ∧ n ≤ cap := by
  have hlt := h.lt
  rcases h.2 with ⟨rfl, rfl⟩ | ⟨g, cap, cur, rfl, hg, hh, hle, _⟩
  · omega
  · exact ⟨g, cap, rfl, hg, (hlt g rfl).2, hle⟩

/-- Three stores in another block. -/
theorem prow_low3 {w : World} {base : Nat} {e : TypeId} {size : Nat} {v : Value} {n : Nat} {xs : List Value} (h : w.ownsRow base e size v n xs) {b : Nat} (hb : b < base) (x y z : Value) : (((w.setCell ⟨b, 0, none⟩ x).setCell ⟨b, 1, none⟩ y).setCell ⟨b, 2, none⟩ z).ownsRow base e size v n xs :=
  prow_keep h fun c hc => by
    have := (h.lt c hc).1
    rw [heap_setCell_other _ _ _ _ (by simp; omega), heap_setCell_other _ _ _ _ (by simp; omega), heap_setCell_other _ _ _ _ (by simp; omega)]

theorem flatP_set {ps : List PairD} {i : Nat} {x : PairD} (h : ps[i]? = some x) (val : ByteArray) (ver : Int) : ((flatP ps).set (i * 3 + 1) (.string val)).set (i * 3 + 2) (.int .i64 ver) = flatP (ps.set i ⟨x.name, val, ver⟩) := by
  induction ps generalizing i with
  | nil => simp at h
  | cons q t ih =>
    have e : ∀ q t, flatP (q :: t) = pairCells q ++ flatP t := fun q t => by simp [flatP]
    cases i with
    | zero =>
      have : q = x := by simpa using h
      subst this
      rw [List.set_cons_zero, e, e]
      simp [pairCells]
    | succ i =>
      rw [List.set_cons_succ, e, e]
      have hl : (pairCells q).length = 3 := rfl
      have := ih (i := i) (by simpa using h)
      rw [← this]
      rw [List.set_append_right _ _ (by omega), List.set_append_right _ _ (by omega), hl, show (i + 1) * 3 + 1 - 3 = i * 3 + 1 by omega, show (i + 1) * 3 + 2 - 3 = i * 3 + 2 by omega]

/-- A pair's value and version put anew. -/
theorem prow_put {w : World} {base : Nat} {g n cap i : Nat} {ps : List PairD} {x : PairD} (h : w.ownsRow base 89 3 (.slice (some ⟨g, 0, none⟩) n cap) n (flatP ps)) (hx : ps[i]? = some x) (val : ByteArray) (ver : Int) :
    ((w.setCell ⟨g, i * 3 + 1, none⟩ (.string val)).setCell ⟨g, i * 3 + 2, none⟩ (.int .i64 ver)).ownsRow base 89 3 (.slice (some ⟨g, 0, none⟩) n cap) n (flatP (ps.set i ⟨x.name, val, ver⟩)) := by
  have h1 := (h.stored (i * 3 + 1) (.string val)).1
  have h2 := (h1.stored (i * 3 + 2) (.int .i64 ver)).1
  rwa [flatP_set hx] at h2

theorem prow_cells {w : World} {base : Nat} {g n cap i : Nat} {ps : List PairD} {x : PairD} (h : w.ownsRow base 89 3 (.slice (some ⟨g, 0, none⟩) n cap) n (flatP ps)) (hx : ps[i]? = some x) (hn : n = ps.length) :
    w.cell? ⟨g, i * 3, none⟩ = some (.string x.name) ∧ w.cell? ⟨g, i * 3 + 1, none⟩ = some (.string x.value) ∧ w.cell? ⟨g, i * 3 + 2, none⟩ = some (.int .i64 x.version) ∧ ∀ j, w.frozen? ⟨g, j, none⟩ = false := by
  have hi : i < ps.length := (List.getElem?_eq_some_iff.1 hx).1
  have key : ∀ j, j < 3 → w.cell? ⟨g, i * 3 + j, none⟩ = (pairCells x)[j]? := fun j hj => by
    rw [h.cellAt (i * 3 + j) (by omega), flatP_at hx j hj]
  exact ⟨by simpa [pairCells] using key 0 (by omega), by simpa [pairCells] using key 1 (by omega), by simpa [pairCells] using key 2 (by omega), fun j => h.frozenAt j⟩

end Go.Proofs.YtijilhbdbeajjaaGreatDoor

namespace Go.Proofs.YtijilhbdbeajjaaGreatDoor

open Go.RowKit

theorem pret_bool {a b : Bool} (h : a = b) : Ending.returned (.bool a) = .returned (.bool b) := by rw [h]

theorem place1_any (nm xn xv : ByteArray) (xe : Int) (b : Nat) (w : World) (hc : w.cell? ⟨b, 0, none⟩ = some (.string nm)) (hb : b < w.heap.size) :
    Calls Tryz.prog 251 #[.agg #[.string xn, .string xv, .int .i64 xe], .pointer (some ⟨b, 0, none⟩)] w fun e w' => e = .returned (.bool (!ltP xn nm)) ∧ Below w.heap.size w w' := by
  go_enter Tryz.func251, Tryz.ntmps251
  go_wp2
  go_ret
  exact ⟨pret_bool (by simp [ltP]), (Below.refl _ _).alloc (Nat.le_refl _) _⟩

set_option maxHeartbeats 800000 in
theorem indexPlace (v : Value) (ps : List PairD) (nm : ByteArray) (b0 : Nat) (w : World) (B : Nat) (hv : PairsR w B v ps) (hB : B ≤ w.heap.size) (hc0 : w.cell? ⟨b0, 0, none⟩ = some (.string nm)) (hb0 : b0 < w.heap.size) (hn : placeP ps nm < ps.length) :
    Calls Tryz.prog 250 #[v, .func (.func 251) #[] #[.pointer (some ⟨b0, 0, none⟩)]] w fun e w' => e = .returned (.int .i64 (placeP ps nm : Nat)) ∧ Below w.heap.size w w' := by
  obtain ⟨ao, cap, rfl, h1, h2, h3, h4⟩ := hv
  have HN : Hid (∀ x, ps[placeP ps nm]? = some x → ltP x.name nm = false) := fun x hx => placeP_at hx
  have HM : Hid (∀ (j : Nat) (x : PairD), j < placeP ps nm → ps[j]? = some x → ltP x.name nm = true) := fun j x hj hx => placeP_before hj hx
  obtain ⟨n, hne⟩ : ∃ n, n = placeP ps nm := ⟨_, rfl⟩
  rw [← hne] at HN HM hn ⊢
  clear hne
  go_enter Tryz.func250, Tryz.ntmps250
  go_wp2
  go_loopw [8] (fun i wr => ∃ k : Nat, k ≤ n ∧ i = .int .i64 k ∧ Below w.heap.size w wr) (fun i _ => ps.length - (intOf i).toNat)
  case atStart => exact ⟨0, Nat.zero_le _, rfl, Below.refl _ _⟩
  case round =>
    obtain ⟨k, hk, rfl, hb⟩ := hrel
    have hlt : k < ps.length := by omega
    obtain ⟨b, off, rfl, hbB, hc⟩ := h4 (by omega)
    obtain ⟨x, hx⟩ : ∃ x, ps[k]? = some x := ⟨_, List.getElem?_eq_getElem hlt⟩
    obtain ⟨c0, c1, c2, hs⟩ := (hc k x hx).below (by omega) hb
    have HX : Hid (ps[k]? = some x) := hx
    have C := place1_any nm x.name x.value x.version b0 wr ((hb.cell (p := ⟨b0, 0, none⟩) hb0).trans hc0) (by have := hb.size; omega)
    have hsz := hb.size
    clear hx hc h4 hs
    by_cases hkn : k = n
    · subst hkn
      rw [HN.out x HX.out] at C
      go_wp2_with fail
      refine C.mono ?_
      rintro e w1 ⟨rfl, hb1⟩
      have hb2 := hb.trans (hb1.mono hsz)
      clear hb1 C
      go_wp2
      go_ret
      exact ⟨rfl, hb2⟩
    · have hkn' : k < n := by omega
      rw [HM.out k x hkn' HX.out] at C
      clear hkn
      go_wp2_with fail
      refine C.mono ?_
      rintro e w1 ⟨rfl, hb1⟩
      have hb2 := hb.trans (hb1.mono hsz)
      clear hb1 C
      go_wp2
      go_roundw
      case rel => exact ⟨k + 1, by omega, by go_num, hb2⟩
      case measure => simp [intOf]; omega

set_option maxHeartbeats 800000 in
theorem indexPlace_none (v : Value) (ps : List PairD) (nm : ByteArray) (b0 : Nat) (w : World) (B : Nat) (hv : PairsR w B v ps) (hB : B ≤ w.heap.size) (hc0 : w.cell? ⟨b0, 0, none⟩ = some (.string nm)) (hb0 : b0 < w.heap.size) (hn : ¬ placeP ps nm < ps.length) :
    Calls Tryz.prog 250 #[v, .func (.func 251) #[] #[.pointer (some ⟨b0, 0, none⟩)]] w fun e w' => e = .returned (.int .i64 (-1)) ∧ Below w.heap.size w w' := by
  obtain ⟨ao, cap, rfl, h1, h2, h3, h4⟩ := hv
  have HM : Hid (∀ (j : Nat) (x : PairD), ps[j]? = some x → ltP x.name nm = true) := fun j x hx => placeP_before (by have := (List.getElem?_eq_some_iff.1 hx).1; omega) hx
  clear hn
  go_enter Tryz.func250, Tryz.ntmps250
  go_wp2
  go_loopw [8] (fun i wr => ∃ k : Nat, k ≤ ps.length ∧ i = .int .i64 k ∧ Below w.heap.size w wr) (fun i _ => ps.length - (intOf i).toNat)
  case atStart => exact ⟨0, Nat.zero_le _, rfl, Below.refl _ _⟩
  case round =>
    obtain ⟨k, hk, rfl, hb⟩ := hrel
    by_cases hlt : k < ps.length
    · obtain ⟨b, off, rfl, hbB, hc⟩ := h4 (by omega)
      obtain ⟨x, hx⟩ : ∃ x, ps[k]? = some x := ⟨_, List.getElem?_eq_getElem hlt⟩
      obtain ⟨c0, c1, c2, hs⟩ := (hc k x hx).below (by omega) hb
      have C := place1_any nm x.name x.value x.version b0 wr ((hb.cell (p := ⟨b0, 0, none⟩) hb0).trans hc0) (by have := hb.size; omega)
      have hsz := hb.size
      rw [HM.out k x hx] at C
      clear hx hc h4 hs
      go_wp2_with fail
      refine C.mono ?_
      rintro e w1 ⟨rfl, hb1⟩
      have hb2 := hb.trans (hb1.mono hsz)
      clear hb1 C
      go_wp2
      go_roundw
      case rel => exact ⟨k + 1, by omega, by go_num, hb2⟩
      case measure => simp [intOf]; omega
    · go_wp2
      go_ret
      exact ⟨rfl, hb⟩

set_option maxHeartbeats 800000 in
theorem place_any (v : Value) (ps : List PairD) (nm : ByteArray) (w : World) (B : Nat) (hv : PairsR w B v ps) (hB : B ≤ w.heap.size) :
    Calls Tryz.prog 223 #[v, .string nm] w fun e w' => e = .returned (.tuple #[.int .i64 (placeP ps nm : Nat), .bool (thereP ps nm)]) ∧ Below w.heap.size w w' := by
  have hlen := hv.len
  by_cases hn : placeP ps nm < ps.length
  · obtain ⟨x, hx⟩ : ∃ x, ps[placeP ps nm]? = some x := ⟨_, List.getElem?_eq_getElem hn⟩
    have ht : thereP ps nm = (x.name.toList == nm.toList) := by unfold thereP; rw [hx]; rfl
    have C := fun w' (hb : Below w.heap.size w w') b0 hc0 hb0 => indexPlace v ps nm b0 w' B (hv.below hb hB) (by have := hb.size; omega) hc0 hb0 hn
    have HC := phid C
    obtain ⟨ao, cap, rfl, h1, h2, h3, h4⟩ := hv
    obtain ⟨b, off, rfl, hbB, hc⟩ := h4 (by omega)
    obtain ⟨c0, -⟩ := hc _ x hx
    rw [ht]
    obtain ⟨n, hne⟩ : ∃ n, n = placeP ps nm := ⟨_, rfl⟩
    rw [← hne] at HC hn c0 ⊢
    obtain ⟨xn, xv, xe⟩ := x
    simp only at c0 ⊢
    clear C hx ht h4 hc hne
    go_enter Tryz.func223, Tryz.ntmps223
    go_wp2_with fail
    refine (HC.out _ ((Below.refl _ _).alloc (Nat.le_refl _) _) w.heap.size (by simp) (by simp)).mono ?_
    rintro e w1 ⟨rfl, hb1⟩
    have HB := phid (((Below.refl w.heap.size w).alloc (Nat.le_refl _) (.cells #[.string nm] 9)).trans (hb1.mono (by simp)))
    have d0 : w1.cell? ⟨b, off + n * 3, none⟩ = some (.string xn) := (HB.out.cell (p := ⟨b, off + n * 3, none⟩) (by show b < w.heap.size; omega)).trans c0
    have d1 : w1.cell? ⟨w.heap.size, 0, none⟩ = some (.string nm) := (hb1.cell (p := ⟨w.heap.size, 0, none⟩) (by simp)).trans (by simp)
    have hz1 : w.heap.size < w1.heap.size := by have := hb1.size; simp at this; omega
    clear hb1 c0
    go_wp2_with fail
    go_quiet (fail)
    go_wp2
    refine bodyPost_ret (v := .tuple #[.int .i64 n, .bool (xn.toList == nm.toList)]) (by simp [results, Tryz.results223, go_sem]) rfl ?_
    exact ⟨rfl, HB.out.trans (pairs_drewN_below _ _ _)⟩
  · have ht : thereP ps nm = false := by unfold thereP; rw [List.getElem?_eq_none (by omega)]
    have hpe : placeP ps nm = ps.length := by have := placeP_le ps nm; omega
    have C := fun w' (hb : Below w.heap.size w w') b0 hc0 hb0 => indexPlace_none v ps nm b0 w' B (hv.below hb hB) (by have := hb.size; omega) hc0 hb0 hn
    have HC := phid C
    obtain ⟨ao, cap, rfl, h1, h2, h3, h4⟩ := hv
    rw [ht, hpe]
    clear C ht h4 hpe hn
    go_enter Tryz.func223, Tryz.ntmps223
    go_wp2_with fail
    refine (HC.out _ ((Below.refl _ _).alloc (Nat.le_refl _) _) w.heap.size (by simp) (by simp)).mono ?_
    rintro e w1 ⟨rfl, hb1⟩
    have HB := phid (((Below.refl w.heap.size w).alloc (Nat.le_refl _) (.cells #[.string nm] 9)).trans (hb1.mono (by simp)))
    clear hb1
    go_wp2
    refine bodyPost_ret (v := .tuple #[.int .i64 ps.length, .bool false]) (by simp [results, Tryz.results223, go_sem]) rfl ?_
    exact ⟨rfl, HB.out⟩

end Go.Proofs.YtijilhbdbeajjaaGreatDoor

namespace Go.Proofs.YtijilhbdbeajjaaGreatDoor

open Go.RowKit

theorem pbcell {W w1 : World} (hb : Below W.heap.size W w1) : (∀ b o, b < W.heap.size → w1.cell? ⟨b, o, none⟩ = W.cell? ⟨b, o, none⟩) ∧ (∀ b o, b < W.heap.size → w1.frozen? ⟨b, o, none⟩ = W.frozen? ⟨b, o, none⟩) :=
  ⟨fun b o h => hb.cell (p := ⟨b, o, none⟩) h, fun b o h => hb.frozen (p := ⟨b, o, none⟩) h⟩

theorem three_of {α : Type} (Z : List α) (h : 3 ≤ Z.length) : ∃ z0 z1 z2 Z', Z = z0 :: z1 :: z2 :: Z' := by
  match Z, h with
  | z0 :: z1 :: z2 :: Z', _ => exact ⟨z0, z1, z2, Z', rfl⟩

theorem set3 {α : Type} (A Z : List α) (z0 z1 z2 a b c : α) (n : Nat) (hA : A.length = n) :
    (((A ++ z0 :: z1 :: z2 :: Z).set n a).set (n + 1) b).set (n + 2) c = A ++ a :: b :: c :: Z := by
  subst hA
  simp

/-- Three cells put into a row. -/
theorem put3_own {w : World} {base : Nat} {e : TypeId} {g n cap k : Nat} {A Z : List Value} {z0 z1 z2 : Value} (h : w.ownsRow base e 3 (.slice (some ⟨g, 0, none⟩) n cap) n (A ++ z0 :: z1 :: z2 :: Z)) (hA : A.length = k * 3) (a b c : Value) :
    (((w.setCell ⟨g, k * 3, none⟩ a).setCell ⟨g, k * 3 + 1, none⟩ b).setCell ⟨g, k * 3 + 2, none⟩ c).ownsRow base e 3 (.slice (some ⟨g, 0, none⟩) n cap) n (A ++ a :: b :: c :: Z) := by
  have h1 := (h.stored (k * 3) a).1
  have h2 := (h1.stored (k * 3 + 1) b).1
  have h3 := (h2.stored (k * 3 + 2) c).1
  rwa [set3 A Z z0 z1 z2 a b c (k * 3) hA] at h3

theorem put3_below {B : Nat} {w0 w : World} (h : Below B w0 w) {g k : Nat} (hg : B ≤ g) (a b c : Value) :
    Below B w0 (((w.setCell ⟨g, k * 3, none⟩ a).setCell ⟨g, k * 3 + 1, none⟩ b).setCell ⟨g, k * 3 + 2, none⟩ c) :=
  ((h.setCell (by simpa using hg) a).setCell (by simpa using hg) b).setCell (by simpa using hg) c

/-- The local pair, its texts put anew. -/
theorem pclone_cell {wr w1 w2 : World} {xn xv : ByteArray} {xe : Int}
    (hb1 : Below (wr.heap.size + 1) (wr.alloc (.cells #[.string xn, .string xv, .int .i64 xe] 89)) w1) (hb2 : Below w1.heap.size w1 w2) :
    ((w2.setCell ⟨wr.heap.size, 0, none⟩ (.string xn)).setCell ⟨wr.heap.size, 1, none⟩ (.string xv)).heap[wr.heap.size]? = some (.cells #[.string xn, .string xv, .int .i64 xe] 89 (0, 0)) ∧
    Below wr.heap.size wr ((w2.setCell ⟨wr.heap.size, 0, none⟩ (.string xn)).setCell ⟨wr.heap.size, 1, none⟩ (.string xv)) := by
  have hz1 : wr.heap.size + 1 ≤ w1.heap.size := by have := hb1.size; simpa using this
  have g2 : w2.heap[wr.heap.size]? = some (.cells #[.string xn, .string xv, .int .i64 xe] 89 (0, 0)) := by
    rw [hb2.block _ (by omega), hb1.block _ (by omega)]
    exact heap_alloc_new wr _
  have g3 := heap_setCell_same w2 wr.heap.size 0 _ 89 (.string xn) g2
  have g4 := heap_setCell_same _ wr.heap.size 1 _ 89 (.string xv) g3
  refine ⟨by simpa using g4, ?_⟩
  exact ((((Below.refl wr.heap.size wr).alloc (Nat.le_refl _) _).trans (hb1.mono (by omega))).trans (hb2.mono (by omega))).setCell (by simp) _ |>.setCell (by simp) _

end Go.Proofs.YtijilhbdbeajjaaGreatDoor
