/- lock.Gone, and the document's GoneOf. -/
import Derived.Test.YtkmkocbpclkhhacLockFree
import Derived.Test.YtkmkocbpclkhhacRefPassed2
import Derived.Test.YtkmkocbpclkhhacRefFault
namespace Go.Proofs.Ytkmkocbpclkhhac
open Go.RowKit

/-- What Gone leaves. -/
def goneL (ls : List LockD) (who : Int) : List LockD := ls.map (leaveX · who)

/-- What Gone refuses. -/
def goneE (ls : List LockD) (who : Int) : Int := if checkL ls = 0 then (if who < 1 ∨ 9 < who then 2 else 0) else checkL ls

theorem goneE_zero {ls : List LockD} {who : Int} (h : goneE ls who = 0) : checkL ls = 0 ∧ 1 ≤ who ∧ who ≤ 9 := by
  unfold goneE at h
  by_cases h0 : checkL ls = 0
  · rw [if_pos h0] at h
    by_cases hw : who < 1 ∨ 9 < who
    · rw [if_pos hw] at h; cases h
    · exact ⟨h0, by omega, by omega⟩
  · rw [if_neg h0] at h; exact absurd h h0

/-- The locks that are done, and those that are not. -/
def mixL (ls : List LockD) (who : Int) (k : Nat) : List LockD := (goneL ls who).take k ++ ls.drop k

theorem mixL_zero (ls : List LockD) (who : Int) : mixL ls who 0 = ls := by simp [mixL]
theorem mixL_end (ls : List LockD) (who : Int) : mixL ls who ls.length = goneL ls who := by
  unfold mixL
  rw [List.drop_length, List.append_nil, List.take_of_length_le (by simp [goneL])]
theorem mixL_len (ls : List LockD) (who : Int) (k : Nat) (h : k ≤ ls.length) : (mixL ls who k).length = ls.length := by
  simp [mixL, goneL]; omega
theorem mixL_at {ls : List LockD} {who : Int} {k : Nat} {x : LockD} (h : ls[k]? = some x) : (mixL ls who k)[k]? = some x := by
  have hk := (List.getElem?_eq_some_iff.1 h).1
  unfold mixL
  rw [List.getElem?_append_right (by simp [goneL]; omega)]
  have : k - ((goneL ls who).take k).length = 0 := by simp [goneL]; omega
  rw [this, List.getElem?_drop]
  simpa using h
theorem mixL_step {ls : List LockD} {who : Int} {k : Nat} {x : LockD} (h : ls[k]? = some x) : (mixL ls who k).set k (leaveX x who) = mixL ls who (k + 1) := by
  obtain ⟨hk, he⟩ := List.getElem?_eq_some_iff.1 h
  have hg : k < (goneL ls who).length := by simpa [goneL] using hk
  have hl : ((goneL ls who).take k).length = k := by rw [List.length_take]; omega
  have hgk : (goneL ls who)[k] = leaveX x who := by simp [goneL, he]
  unfold mixL
  have hd : ls.drop k = ls[k] :: ls.drop (k + 1) := List.drop_eq_getElem_cons hk
  rw [hd, List.take_succ_eq_append_getElem hg, hgk, List.set_append_right _ _ (by omega), hl, Nat.sub_self, List.set_cons_zero, List.append_assoc]
  rfl

theorem Gone_bad (v : Value) (ls : List LockD) (who : Int) (w : World) (B : Nat) (hv : LocksR w B v ls) (hB : B ≤ w.heap.size) (hr : goneE ls who ≠ 0) :
    Calls Try.prog 9 #[v, .int .i64 who] w fun e w' => e = .returned (.tuple #[.slice none 0 0, .int .i64 (goneE ls who)]) ∧ Below w.heap.size w w' := by
  have CR := check_any v ls w B hv hB
  obtain ⟨ao, cap, rfl, -⟩ := hv
  unfold goneE at hr ⊢
  by_cases h0 : checkL ls = 0
  · rw [if_pos h0] at hr ⊢
    rw [h0] at CR
    by_cases hw : who < 1 ∨ 9 < who
    · rw [if_pos hw]
      have HW := Hid.mk' hw
      clear hr h0 hw
      go_enter Try.func9, Try.ntmps9
      go_wp2_with fail
      refine CR.mono ?_
      rintro e w1 ⟨rfl, hb1⟩
      go_wp2_with fail
      refine (isClient_no who _ HW.out).mono ?_
      rintro e w2 ⟨rfl, rfl⟩
      go_wp2
      refine bodyPost_ret (v := .tuple #[.slice none 0 0, .int .i64 2]) (by simp [results, Try.results9, go_sem]) rfl ?_
      exact ⟨rfl, hb1⟩
    · rw [if_neg hw] at hr; exact absurd rfl hr
  · rw [if_neg h0]
    obtain ⟨c, hc⟩ : ∃ c, c = checkL ls := ⟨_, rfl⟩
    rw [← hc] at CR h0 ⊢
    clear hc hr
    have hr2 : (c != 0) = true := by simpa using h0
    clear h0
    go_enter Try.func9, Try.ntmps9
    go_wp2_with fail
    refine CR.mono ?_
    rintro e w1 ⟨rfl, hb1⟩
    go_wp2
    refine bodyPost_ret (v := .tuple #[.slice none 0 0, .int .i64 c]) (by simp [results, Try.results9, go_sem]) rfl ?_
    exact ⟨rfl, hb1⟩

set_option maxRecDepth 100000 in
set_option maxHeartbeats 1600000 in
theorem Gone_ok (v : Value) (ls : List LockD) (who : Int) (w : World) (B : Nat) (hv : LocksR w B v ls) (hB : B ≤ w.heap.size) (hr : goneE ls who = 0) :
    Calls Try.prog 9 #[v, .int .i64 who] w fun e w' => ∃ v', e = .returned (.tuple #[v', .int .i64 0]) ∧ LocksR w' w'.heap.size v' (goneL ls who) ∧ Below w.heap.size w w' := by
  obtain ⟨hck, hw1, hw2⟩ := goneE_zero hr
  have CR := check_any v ls w B hv hB
  rw [hck] at CR
  obtain ⟨hx5, hxc⟩ := check_each hck
  have HC := Hid.mk' hxc
  have HV := Hid.mk' hv
  have hll := hv.len
  obtain ⟨ao, cap, rfl, -⟩ := hv
  clear hr hck hxc
  go_enter Try.func9, Try.ntmps9
  go_wp2_with fail
  refine CR.mono ?_
  rintro e w1 ⟨rfl, hb1⟩
  go_wp2_with fail
  refine (isClient_yes who _ hw1 hw2).mono ?_
  rintro e w1 ⟨rfl, rfl⟩
  have hv1 := HV.out.below hb1 hB
  have HB1 := Hid.mk' hb1
  have hz1 : B ≤ w1.heap.size := by have := hb1.size; omega
  have hzw : w.heap.size ≤ w1.heap.size := hb1.size
  clear hb1 CR HV
  go_wp2_with fail
  refine (copy_any _ ls w1 B hv1 hz1).mono ?_
  rintro e w2 ⟨rfl, rs, hrs, hown2, hb2⟩
  have HB2 := Hid.mk' (HB1.out.trans (hb2.mono HB1.out.size))
  have HO2 : Hid (∃ rs, rs.map (·.1) = mixL ls who 0 ∧ OwnL w2 w1.heap.size (.slice (some ⟨w1.heap.size, 0, none⟩) ls.length ls.length) rs) := ⟨rs, by rw [hrs, mixL_zero], hown2⟩
  have hz2 : w1.heap.size < w2.heap.size := (hown2.row.lt w1.heap.size rfl).2
  clear hb2 hown2 hrs hv1
  go_wp2
  go_loopw [21] (fun i wr => ∃ (k : Nat) (rs : List (LockD × Value)), k ≤ ls.length ∧ i = .int .i64 k ∧ rs.map (·.1) = mixL ls who k ∧ OwnL wr w1.heap.size (.slice (some ⟨w1.heap.size, 0, none⟩) ls.length ls.length) rs ∧ Below w.heap.size w wr)
    (fun i _ => ls.length - (intOf i).toNat)
  case atStart =>
    obtain ⟨rs, h1, h2⟩ := HO2.out
    exact ⟨0, rs, Nat.zero_le _, rfl, h1, h2, HB2.out⟩
  case round =>
    rename_i iv wr
    obtain ⟨k, rs, hk, rfl, hrs, hown, hb⟩ := hrel
    by_cases hlt : k < ls.length
    · obtain ⟨x, hx⟩ : ∃ x, ls[k]? = some x := ⟨_, List.getElem?_eq_getElem hlt⟩
      obtain ⟨hxf, hx1, hx2⟩ := HC.out k x hx
      have hnd := nodup_line (form_line hxf).2.2.2.1
      have hm := mixL_at (who := who) hx
      have HS := Hid.mk' (mixL_step (who := who) hx)
      rw [← hrs, List.getElem?_map] at hm
      obtain ⟨r, hr, hrx⟩ := Option.map_eq_some_iff.1 hm
      obtain ⟨p, s, hps, hpl⟩ := split_at hr
      subst hps
      subst hrx
      subst hpl
      have CL := leave_any w1.heap.size ls.length ls.length p s r who wr w1.heap.size hown (by omega) hx2 hnd
      have HRS := Hid.mk' hrs
      have HBK := Hid.mk' hb
      have HW := Hid.mk' hown
      clear hm hr hx hxf hx1 hx2 hnd hrs hb hown HO2
      go_wp2_with fail
      refine CL.mono ?_
      rintro e w5 ⟨rfl, lv, hown5, ht5⟩
      have hb5 : Below w1.heap.size wr w5 := ht5.below (by have := (HW.out.row.lt w1.heap.size rfl).2; omega) (fun k hk => (HW.out.ownB k hk).1)
      have HF := Hid.mk' (⟨hown5, HBK.out.trans (hb5.mono hzw)⟩ : _ ∧ _)
      clear hown5 ht5 hb5 CL
      go_wp2
      go_roundw
      case rel =>
        refine ⟨p.length + 1, _, by omega, by go_num, ?_, HF.out.1, HF.out.2⟩
        rw [map_mid p s r, HRS.out]
        exact HS.out
      case measure => simp [intOf]; omega
    · have hkl : k = ls.length := by omega
      subst hkl
      have HF := Hid.mk' (⟨hown.reads (Nat.le_refl _), hrs, hb⟩ : _ ∧ _ ∧ _)
      clear hown hrs hb HO2
      go_wp2
      refine bodyPost_ret (v := .tuple #[.slice (some ⟨w1.heap.size, 0, none⟩) ls.length ls.length, .int .i64 0]) (by simp [results, Try.results9, go_sem]) rfl ?_
      refine ⟨_, rfl, ?_, HF.out.2.2⟩
      have K := HF.out.1
      rwa [HF.out.2.1, mixL_end] at K

theorem goneOf_bad (v : Value) (ls : List LockD) (who : Int) (w : World) (B : Nat) (hv : LocksR w B v ls) (hB : B ≤ w.heap.size) (hr : goneE ls who ≠ 0) :
    Calls Try.prog 10 #[v, .int .i64 who] w fun e w' => e = .returned (.tuple #[.slice none 0 0, .int .i64 (goneE ls who)]) ∧ Below w.heap.size w w' := by
  have CR := locksFault_any v ls w B hv hB
  obtain ⟨ao, cap, rfl, -⟩ := hv
  unfold goneE at hr ⊢
  by_cases h0 : checkL ls = 0
  · rw [if_pos h0] at hr ⊢
    rw [h0] at CR
    by_cases hw : who < 1 ∨ 9 < who
    · rw [if_pos hw]
      have CI : ∀ w', Calls Try.prog 26 #[.int .i64 who, .int .i64 1, .int .i64 9] w' fun e w2 => e = .returned (.bool false) ∧ w2 = w' := fun w' => by
        rcases hw with h | h
        · exact in_low who 1 9 _ h
        · exact in_high who 1 9 _ h
      clear hr h0 hw
      go_enter Try.func10, Try.ntmps10
      go_wp2_with fail
      refine CR.mono ?_
      rintro e w1 ⟨rfl, hb1⟩
      go_wp2_with fail
      refine (CI _).mono ?_
      rintro e w2 ⟨rfl, rfl⟩
      go_wp2
      refine bodyPost_ret (v := .tuple #[.slice none 0 0, .int .i64 2]) (by simp [results, Try.results10, go_sem]) rfl ?_
      exact ⟨rfl, hb1⟩
    · rw [if_neg hw] at hr; exact absurd rfl hr
  · rw [if_neg h0]
    obtain ⟨c, hc⟩ : ∃ c, c = checkL ls := ⟨_, rfl⟩
    rw [← hc] at CR h0 ⊢
    clear hc hr
    have hr2 : (c == 0) = false := by simpa using h0
    have hr3 : (c != 0) = true := by simpa using h0
    clear h0
    go_enter Try.func10, Try.ntmps10
    go_wp2_with fail
    refine CR.mono ?_
    rintro e w1 ⟨rfl, hb1⟩
    go_wp2
    refine bodyPost_ret (v := .tuple #[.slice none 0 0, .int .i64 c]) (by simp [results, Try.results10, go_sem]) rfl ?_
    exact ⟨rfl, hb1⟩
end Go.Proofs.Ytkmkocbpclkhhac
