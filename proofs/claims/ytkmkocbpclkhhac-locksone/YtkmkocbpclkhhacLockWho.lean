/- lock.Who, and the document's HolderOf. -/
import Derived.Test.YtkmkocbpclkhhacLockTake
import Derived.Test.YtkmkocbpclkhhacRefFault
import Derived.Test.YtkmkocbpclkhhacSameLocks
import Derived.BigQuiet
namespace Go.Proofs.Ytkmkocbpclkhhac
open Go.RowKit

/-- Who has a lock, and with which fence. -/
def whoL (ls : List LockD) (nm : ByteArray) : Int × Int :=
  match ls[atL ls nm]? with
  | some x => if x.holder = 0 then (0, 0) else (x.holder, x.fence)
  | none => (0, 0)

theorem Who_bad (v : Value) (ls : List LockD) (nm : ByteArray) (w : World) (B : Nat) (hv : LocksR w B v ls) (hB : B ≤ w.heap.size) (hr : checkL ls ≠ 0) :
    Calls Try.prog 12 #[v, .string nm] w fun e w' => e = .returned (.tuple #[.int .i64 0, .int .i64 0, .int .i64 (checkL ls)]) ∧ Below w.heap.size w w' := by
  have CR := check_any v ls w B hv hB
  obtain ⟨ao, cap, rfl, -⟩ := hv
  obtain ⟨c, hc⟩ : ∃ c, c = checkL ls := ⟨_, rfl⟩
  rw [← hc] at CR hr ⊢
  clear hc
  have hr2 : (c != 0) = true := by simpa using hr
  clear hr
  go_enter Try.func12, Try.ntmps12
  go_wp2_with fail
  refine CR.mono ?_
  rintro e w1 ⟨rfl, hb1⟩
  go_wp2
  refine bodyPost_ret (v := .tuple #[.int .i64 0, .int .i64 0, .int .i64 c]) (by simp [results, Try.results12, go_sem]) rfl ?_
  exact ⟨rfl, hb1⟩

set_option maxRecDepth 100000 in
set_option maxHeartbeats 1600000 in
theorem Who_ok (v : Value) (ls : List LockD) (nm : ByteArray) (w : World) (B : Nat) (hv : LocksR w B v ls) (hB : B ≤ w.heap.size) (hr : checkL ls = 0) :
    Calls Try.prog 12 #[v, .string nm] w fun e w' => e = .returned (.tuple #[.int .i64 (whoL ls nm).1, .int .i64 (whoL ls nm).2, .int .i64 0]) ∧ Below w.heap.size w w' := by
  have CR := check_any v ls w B hv hB
  rw [hr] at CR
  have HV := Hid.mk' hv
  by_cases hat : atL ls nm < ls.length
  · obtain ⟨x, hx, hxe⟩ := atL_found hat
    have hxm : ∀ (j : Nat) (y : LockD), j < atL ls nm → ls[j]? = some y → eqN y.name nm = false := fun j y hj hy => atL_min j y hj hy
    have e : whoL ls nm = if x.holder = 0 then (0, 0) else (x.holder, x.fence) := by unfold whoL; rw [hx]
    rw [e]
    obtain ⟨i, hi⟩ : ∃ i, i = atL ls nm := ⟨_, rfl⟩
    rw [← hi] at hx hxm hat
    have hll := hv.len
    obtain ⟨ao, cap, rfl, h1, h2, h3, h4⟩ := hv
    obtain ⟨b, off, rfl, hbB, hc⟩ := h4 (by omega)
    obtain ⟨lv, c0, c1, c2, c3, hl, hs⟩ := hc i x hx
    obtain ⟨xn, xh, xf, xl⟩ := x
    simp only at hxe c1 c2
    have HX := Hid.mk' hx
    have HM := Hid.mk' hxm
    clear hx hxm hi e hr c0 c3 hl hs hc h4 h3
    by_cases h0 : xh = 0
    · subst h0
      simp only [if_true]
      go_enter Try.func12, Try.ntmps12
      go_wp2_with fail
      refine CR.mono ?_
      rintro e w1 ⟨rfl, hb1⟩
      go_wp2_with fail
      refine (named_any nm _).mono ?_
      rintro e w2 ⟨rfl, rfl⟩
      have hb2 : Below w.heap.size w (w1.alloc (.cells #[.string nm] 9)) := hb1.alloc hb1.size _
      have hrd := HV.out.below hb2 hB
      have hz1 := hb1.size
      go_wp2_with fail
      refine (indexNamed_found _ ls nm w1.heap.size i _ _ _ hrd (by simp; omega) (by simp) (by simp) HX.out hxe HM.out).mono ?_
      rintro e w3 ⟨rfl, hb3⟩
      have HB3 := Hid.mk' (hb2.trans (hb3.mono (by simp; omega)))
      have d1 : w3.cell? ⟨b, off + i * 4 + 1, none⟩ = some (.int .i64 0) := (HB3.out.cell (p := ⟨b, off + i * 4 + 1, none⟩) (by show b < w.heap.size; omega)).trans c1
      clear hb1 hb2 hb3 hrd c1 c2 CR
      go_wp2
      refine bodyPost_ret (v := .tuple #[.int .i64 0, .int .i64 0, .int .i64 0]) (by simp [results, Try.results12, go_sem]) rfl ?_
      exact ⟨rfl, HB3.out⟩
    · have h00 : (xh == 0) = false := by simpa using h0
      simp only [if_neg h0]
      clear h0
      go_enter Try.func12, Try.ntmps12
      go_wp2_with fail
      refine CR.mono ?_
      rintro e w1 ⟨rfl, hb1⟩
      go_wp2_with fail
      refine (named_any nm _).mono ?_
      rintro e w2 ⟨rfl, rfl⟩
      have hb2 : Below w.heap.size w (w1.alloc (.cells #[.string nm] 9)) := hb1.alloc hb1.size _
      have hrd := HV.out.below hb2 hB
      have hz1 := hb1.size
      go_wp2_with fail
      refine (indexNamed_found _ ls nm w1.heap.size i _ _ _ hrd (by simp; omega) (by simp) (by simp) HX.out hxe HM.out).mono ?_
      rintro e w3 ⟨rfl, hb3⟩
      have HB3 := Hid.mk' (hb2.trans (hb3.mono (by simp; omega)))
      have d1 : w3.cell? ⟨b, off + i * 4 + 1, none⟩ = some (.int .i64 xh) := (HB3.out.cell (p := ⟨b, off + i * 4 + 1, none⟩) (by show b < w.heap.size; omega)).trans c1
      have d2 : w3.cell? ⟨b, off + i * 4 + 2, none⟩ = some (.int .i64 xf) := (HB3.out.cell (p := ⟨b, off + i * 4 + 2, none⟩) (by show b < w.heap.size; omega)).trans c2
      clear hb1 hb2 hb3 hrd c1 c2 CR
      go_wp2_with fail
      go_quiet (fail)
      go_wp2
      refine bodyPost_ret (v := .tuple #[.int .i64 xh, .int .i64 xf, .int .i64 0]) (by simp [results, Try.results12, go_sem]) rfl ?_
      exact ⟨rfl, HB3.out.trans (drewN_below _ _ _)⟩
  · have hxm : ∀ (j : Nat) (y : LockD), ls[j]? = some y → eqN y.name nm = false := fun j y hy => atL_none hat j y hy
    have e : whoL ls nm = (0, 0) := by unfold whoL; rw [List.getElem?_eq_none (by omega)]
    rw [e]
    simp only
    have HM := Hid.mk' hxm
    obtain ⟨ao, cap, rfl, -⟩ := hv
    clear hxm e hr hat
    go_enter Try.func12, Try.ntmps12
    go_wp2_with fail
    refine CR.mono ?_
    rintro e w1 ⟨rfl, hb1⟩
    go_wp2_with fail
    refine (named_any nm _).mono ?_
    rintro e w2 ⟨rfl, rfl⟩
    have hb2 : Below w.heap.size w (w1.alloc (.cells #[.string nm] 9)) := hb1.alloc hb1.size _
    have hrd := HV.out.below hb2 hB
    have hz1 := hb1.size
    go_wp2_with fail
    refine (indexNamed_none _ ls nm w1.heap.size _ _ hrd (by simp; omega) (by simp) (by simp) HM.out).mono ?_
    rintro e w3 ⟨rfl, hb3⟩
    have HB3 := Hid.mk' (hb2.trans (hb3.mono (by simp; omega)))
    clear hb1 hb2 hb3 hrd CR
    go_wp2
    refine bodyPost_ret (v := .tuple #[.int .i64 0, .int .i64 0, .int .i64 0]) (by simp [results, Try.results12, go_sem]) rfl ?_
    exact ⟨rfl, HB3.out⟩

set_option maxRecDepth 100000 in
set_option maxHeartbeats 1600000 in
theorem holderOf_bad (v : Value) (ls : List LockD) (nm : ByteArray) (w : World) (B : Nat) (hv : LocksR w B v ls) (hB : B ≤ w.heap.size) (hr : checkL ls ≠ 0) :
    Calls Try.prog 13 #[v, .string nm] w fun e w' => e = .returned (.tuple #[.int .i64 0, .int .i64 0, .int .i64 (checkL ls)]) ∧ Below w.heap.size w w' := by
  have CR := locksFault_any v ls w B hv hB
  have CA : ∀ w', Below w.heap.size w w' → ∃ n : Int, Calls Try.prog 32 #[v, .string nm] w' fun e w2 => e = .returned (.int .i64 n) ∧ w2 = w' := fun w' hb => by
    by_cases hat : atL ls nm < ls.length
    · obtain ⟨x, hx, hxe⟩ := atL_found hat
      exact ⟨_, lockAt_found v ls nm (atL ls nm) x w' B (hv.below hb hB) hx hxe (fun j y hj hy => atL_min j y hj hy)⟩
    · exact ⟨_, lockAt_none v ls nm w' B (hv.below hb hB) (fun j y hy => atL_none hat j y hy)⟩
  obtain ⟨ao, cap, rfl, -⟩ := hv
  obtain ⟨c, hc⟩ : ∃ c, c = checkL ls := ⟨_, rfl⟩
  rw [← hc] at CR hr ⊢
  clear hc
  have hr2 : (c != 0) = true := by simpa using hr
  clear hr
  go_enter Try.func13, Try.ntmps13
  go_wp2_with fail
  refine CR.mono ?_
  rintro e w1 ⟨rfl, hb1⟩
  obtain ⟨n, CN⟩ := CA w1 hb1
  clear CA
  go_wp2_with fail
  refine CN.mono ?_
  rintro e w2 ⟨rfl, rfl⟩
  go_wp2
  refine bodyPost_ret (v := .tuple #[.int .i64 0, .int .i64 0, .int .i64 c]) (by simp [results, Try.results13, go_sem]) rfl ?_
  exact ⟨rfl, hb1⟩

set_option maxRecDepth 100000 in
set_option maxHeartbeats 1600000 in
theorem holderOf_ok (v : Value) (ls : List LockD) (nm : ByteArray) (w : World) (B : Nat) (hv : LocksR w B v ls) (hB : B ≤ w.heap.size) (hr : checkL ls = 0) :
    Calls Try.prog 13 #[v, .string nm] w fun e w' => e = .returned (.tuple #[.int .i64 (whoL ls nm).1, .int .i64 (whoL ls nm).2, .int .i64 0]) ∧ Below w.heap.size w w' := by
  have CR := locksFault_any v ls w B hv hB
  rw [hr] at CR
  have HV := Hid.mk' hv
  by_cases hat : atL ls nm < ls.length
  · obtain ⟨x, hx, hxe⟩ := atL_found hat
    have hxm : ∀ (j : Nat) (y : LockD), j < atL ls nm → ls[j]? = some y → eqN y.name nm = false := fun j y hj hy => atL_min j y hj hy
    have e : whoL ls nm = if x.holder = 0 then (0, 0) else (x.holder, x.fence) := by unfold whoL; rw [hx]
    rw [e]
    obtain ⟨i, hi⟩ : ∃ i, i = atL ls nm := ⟨_, rfl⟩
    rw [← hi] at hx hxm hat
    have hll := hv.len
    obtain ⟨ao, cap, rfl, h1, h2, h3, h4⟩ := hv
    obtain ⟨b, off, rfl, hbB, hc⟩ := h4 (by omega)
    obtain ⟨lv, c0, c1, c2, c3, hl, hs⟩ := hc i x hx
    obtain ⟨xn, xh, xf, xl⟩ := x
    simp only at hxe c1 c2
    have HX := Hid.mk' hx
    have HM := Hid.mk' hxm
    clear hx hxm hi e hr c0 c3 hl hs hc h4 h3
    by_cases h0 : xh = 0
    · subst h0
      simp only [if_true]
      go_enter Try.func13, Try.ntmps13
      go_wp2_with fail
      refine CR.mono ?_
      rintro e w1 ⟨rfl, hb1⟩
      go_wp2_with fail
      refine (lockAt_found _ ls nm i _ w1 _ (HV.out.below hb1 hB) HX.out hxe HM.out).mono ?_
      rintro e w3 ⟨rfl, rfl⟩
      have d1 : w3.cell? ⟨b, off + i * 4 + 1, none⟩ = some (.int .i64 0) := (hb1.cell (p := ⟨b, off + i * 4 + 1, none⟩) (by show b < w.heap.size; omega)).trans c1
      clear c1 c2 CR
      go_wp2
      refine bodyPost_ret (v := .tuple #[.int .i64 0, .int .i64 0, .int .i64 0]) (by simp [results, Try.results13, go_sem]) rfl ?_
      exact ⟨rfl, hb1⟩
    · have h00 : (xh == 0) = false := by simpa using h0
      simp only [if_neg h0]
      clear h0
      go_enter Try.func13, Try.ntmps13
      go_wp2_with fail
      refine CR.mono ?_
      rintro e w1 ⟨rfl, hb1⟩
      go_wp2_with fail
      refine (lockAt_found _ ls nm i _ w1 _ (HV.out.below hb1 hB) HX.out hxe HM.out).mono ?_
      rintro e w3 ⟨rfl, rfl⟩
      have d1 : w3.cell? ⟨b, off + i * 4 + 1, none⟩ = some (.int .i64 xh) := (hb1.cell (p := ⟨b, off + i * 4 + 1, none⟩) (by show b < w.heap.size; omega)).trans c1
      have d2 : w3.cell? ⟨b, off + i * 4 + 2, none⟩ = some (.int .i64 xf) := (hb1.cell (p := ⟨b, off + i * 4 + 2, none⟩) (by show b < w.heap.size; omega)).trans c2
      clear c1 c2 CR
      go_wp2_with fail
      go_quiet (fail)
      go_wp2
      refine bodyPost_ret (v := .tuple #[.int .i64 xh, .int .i64 xf, .int .i64 0]) (by simp [results, Try.results13, go_sem]) rfl ?_
      exact ⟨rfl, hb1.trans (drewN_below _ _ _)⟩
  · have hxm : ∀ (j : Nat) (y : LockD), ls[j]? = some y → eqN y.name nm = false := fun j y hy => atL_none hat j y hy
    have e : whoL ls nm = (0, 0) := by unfold whoL; rw [List.getElem?_eq_none (by omega)]
    rw [e]
    simp only
    have CN : ∀ w', Below w.heap.size w w' → Calls Try.prog 32 #[v, .string nm] w' fun e w2 => e = .returned (.int .i64 (-1)) ∧ w2 = w' := fun w' hb => lockAt_none v ls nm w' B (hv.below hb hB) hxm
    obtain ⟨ao, cap, rfl, -⟩ := hv
    clear hxm e hr hat
    go_enter Try.func13, Try.ntmps13
    go_wp2_with fail
    refine CR.mono ?_
    rintro e w1 ⟨rfl, hb1⟩
    go_wp2_with fail
    refine (CN w1 hb1).mono ?_
    rintro e w2 ⟨rfl, rfl⟩
    go_wp2
    refine bodyPost_ret (v := .tuple #[.int .i64 0, .int .i64 0, .int .i64 0]) (by simp [results, Try.results13, go_sem]) rfl ?_
    exact ⟨rfl, hb1⟩
end Go.Proofs.Ytkmkocbpclkhhac
