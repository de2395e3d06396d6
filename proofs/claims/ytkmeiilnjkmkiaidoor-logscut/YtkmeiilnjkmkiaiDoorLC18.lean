/- log.Copy: the same log, in memory of its own; log.Put (joined by program) -/
import Derived.Laws.StructEq
import Derived.BigQuiet
import Derived.Deep.RegionWith
import Derived.Deep.RegionHeld3
import Derived.Test.YtkmeiilnjkmkiaiDoorLC17
import Derived.Test.YtkmeiilnjkmkiaiDoorLC04
import Derived.Test.YtkmeiilnjkmkiaiDoorLC03
import Derived.Test.YtkmeiilnjkmkiaiDoorLC16
namespace Go.Proofs.YtkmeiilnjkmkiaiDoor

open Go.RowKit

set_option maxRecDepth 100000 in
set_option maxHeartbeats 1600000 in
theorem logCopy_own (v : Value) (l : LogD) (w : World) (B : Nat) (hv : LogR w B v l) (hB : B ≤ w.heap.size) :
    Calls Tryd.prog 20 #[v] w fun e w' => ∃ vo vc, e = .returned (.agg #[.int .i64 l.base, .slice vo l.ents.length vc]) ∧ w'.ownsRow (w.heap.size + 1) 9 1 (.slice vo l.ents.length vc) l.ents.length (textCells l.ents) ∧ Below w.heap.size w w' := by
  obtain ⟨eo, ec, rfl, ht⟩ := hv.shape
  obtain ⟨base, ts⟩ := l
  simp only at ht ⊢
  have hm := ht.sizes
  have hln := ht.len
  have hb0 : Below w.heap.size w ((w.alloc (.cells #[.int .i64 base, .slice eo ts.length ec] 28)).alloc (.cells #[.int .i64 0, .slice none 0 0] 28)) := (((Below.refl _ _).alloc (Nat.le_refl _) _).alloc (by simp) _)
  have hL := (ListsR.one (ht.below hb0 hB) (by have := hb0.size; omega)).below (g_drewN_below _ _ 1) (Nat.le_refl _)
  have CJ := join_own _ [ts] _ _ hL (by simp) (by simpa using hln) (by simpa using hm)
  have hb1 : Below w.heap.size w (((w.alloc (.cells #[.int .i64 base, .slice eo ts.length ec] 28)).alloc (.cells #[.int .i64 0, .slice none 0 0] 28)).alloc (.cells #[.slice eo ts.length ec] 23)).drew := (hb0.alloc (by simp; omega) _).drew
  have hX : (((w.alloc (.cells #[.int .i64 base, .slice eo ts.length ec] 28)).alloc (.cells #[.int .i64 0, .slice none 0 0] 28)).alloc (.cells #[.slice eo ts.length ec] 23)).drew.heap[w.heap.size]? = some (.cells #[.int .i64 base, .slice eo ts.length ec] 28 (0, 0)) := by
    show (World.alloc _ _).heap[_]? = _
    rw [Below.heap_alloc _ _ _ (by simp; omega), Below.heap_alloc _ _ _ (by simp)]
    exact heap_alloc_new w _
  have hR : (((w.alloc (.cells #[.int .i64 base, .slice eo ts.length ec] 28)).alloc (.cells #[.int .i64 0, .slice none 0 0] 28)).alloc (.cells #[.slice eo ts.length ec] 23)).drew.heap[w.heap.size + 1]? = some (.cells #[.int .i64 0, .slice none 0 0] 28 (0, 0)) := by
    show (World.alloc _ _).heap[_]? = _
    rw [Below.heap_alloc _ _ _ (by simp)]
    have := heap_alloc_new (w.alloc (.cells #[.int .i64 base, .slice eo ts.length ec] 28)) (.cells #[.int .i64 0, .slice none 0 0] 28)
    rw [show (w.alloc (.cells #[.int .i64 base, .slice eo ts.length ec] 28)).heap.size = w.heap.size + 1 by simp] at this
    exact this
  obtain ⟨X, hXe⟩ : ∃ X, X = (((w.alloc (.cells #[.int .i64 base, .slice eo ts.length ec] 28)).alloc (.cells #[.int .i64 0, .slice none 0 0] 28)).alloc (.cells #[.slice eo ts.length ec] 23)).drew := ⟨_, rfl⟩
  have hXs : X.heap.size = w.heap.size + 3 := by rw [hXe]; simp
  have ea : ((w.alloc (.cells #[.int .i64 base, .slice eo ts.length ec] 28)).alloc (.cells #[.int .i64 0, .slice none 0 0] 28)).heap.size = w.heap.size + 1 + 1 := by simp
  have CJ2 : Hid (Calls Tryd.prog 21 #[.slice (some ⟨w.heap.size + 1 + 1, 0, none⟩) 1 1] (((w.alloc (.cells #[.int .i64 base, .slice eo ts.length ec] 28)).alloc (.cells #[.int .i64 0, .slice none 0 0] 28)).alloc (.cells #[.slice eo ts.length ec] 23)).drew fun e w' => ∃ vo vc, e = .returned (.slice vo ts.length vc) ∧ w'.ownsRow (w.heap.size + 3) 9 1 (.slice vo ts.length vc) ts.length (textCells ts) ∧ Below w.heap.size w w' ∧ w'.heap[w.heap.size]? = some (.cells #[.int .i64 base, .slice eo ts.length ec] 28 (0, 0)) ∧ w'.heap[w.heap.size + 1]? = some (.cells #[.int .i64 0, .slice none 0 0] 28 (0, 0))) := by
    rw [ea] at CJ
    have e1 : World.drewN ((w.alloc (.cells #[.int .i64 base, .slice eo ts.length ec] 28)).alloc (.cells #[.int .i64 0, .slice none 0 0] 28) |>.alloc (.cells #[.slice eo ts.length ec] 23)) 1 = X := hXe.symm
    rw [e1] at CJ
    rw [← hXe] at hb1 hX hR ⊢
    refine CJ.mono ?_
    rintro e w' ⟨vo, rfl, hown, hb⟩
    simp only [List.flatten_cons, List.flatten_nil, List.append_nil] at hown
    obtain ⟨vo, vc, rfl⟩ := grow_shape hown
    exact ⟨vo, vc, rfl, grow_mono hown (by omega), hb1.trans (hb.mono (by omega)), (hb.block _ (by omega)).trans hX, (hb.block _ (by omega)).trans hR⟩
  clear hv ht hb0 hX hR hm hln hL hb1 ea CJ hXe hXs
  go_enter Tryd.func20, Tryd.ntmps20
  go_wp2_with fail
  go_region_held3 (fun w' => w'.cell? ⟨w.heap.size, 0, none⟩ = some (.int .i64 base) ∧ w'.cell? ⟨w.heap.size, 1, none⟩ = some (.slice eo ts.length ec)) (go_keep)
    (first
      | (go_at_call 21; refine CJ2.out.mono ?_; rintro e w1 ⟨vo, vc, rfl, hown1, hb1, hbx, hrx⟩; obtain ⟨b0, b1, bf, bl⟩ := two_free hbx; obtain ⟨z0, z1, zf, zl⟩ := two_free hrx))
  have HR1 := ghid (grow_mono (zset2_row (b := w.heap.size + 1) hown1 (by omega) (.int .i64 base) (.slice vo ts.length vc)) (by omega : w.heap.size + 1 ≤ w.heap.size + 3))
  have HB1 := ghid (zset2 (b := w.heap.size + 1) hb1 (by omega) (.int .i64 base) (.slice vo ts.length vc))
  clear hown1 hb1 hbx hrx
  go_wp2
  refine bodyPost_ret (v := .agg #[.int .i64 base, .slice vo ts.length vc]) (by simp [results, Tryd.results20, go_sem, z0, z1]) rfl ?_
  exact ⟨_, _, rfl, HR1.out, HB1.out⟩

end Go.Proofs.YtkmeiilnjkmkiaiDoor

namespace Go.Proofs.YtkmeiilnjkmkiaiDoor

open Go.RowKit

theorem refE_zero {l : LogD} {i : Int} {n : Nat} (h : refE l i n = 0) : logE l = 0 ∧ (0 ≤ i ∧ i ≤ 1073741824) ∧ n ≤ 400 ∧ i ≤ l.base + l.ents.length := by
  unfold refE at h
  by_cases h0 : logE l = 0
  · rw [h0, if_neg (by simp)] at h
    by_cases h1 : 0 ≤ i ∧ i ≤ 1073741824
    · rw [if_neg (not_not_intro h1)] at h
      by_cases h2 : 400 < n
      · rw [if_pos h2] at h; exact absurd h (by decide)
      · rw [if_neg h2] at h
        by_cases h3 : lastL l < i
        · rw [if_pos h3] at h; exact absurd h (by decide)
        · unfold lastL at h3
          exact ⟨h0, h1, by omega, by omega⟩
    · rw [if_pos h1] at h; exact absurd h (by decide)
  · rw [if_pos h0] at h
    exact absurd h h0

theorem putE_ref {l : LogD} {i : Int} {more : List ByteArray} : putE l i more = if refE l i more.length ≠ 0 then refE l i more.length else if firstE (overL l i more) ≠ 0 then firstE (overL l i more) else if 400 < (newL l i more).length then 8 else 0 := by
  unfold putE refE
  by_cases h0 : logE l = 0
  · by_cases h1 : ¬ (0 ≤ i ∧ i ≤ 1073741824)
    · simp [h0, h1]
    · by_cases h2 : 400 < more.length
      · simp [h0, h1, h2]
      · by_cases h3 : lastL l < i
        · simp [h0, h1, h2, h3]
        · simp [h0, h1, h2, h3]
  · simp [h0]

theorem putL_bad {l : LogD} {i : Int} {more : List ByteArray} (h : putE l i more ≠ 0) : putL l i more = ⟨0, []⟩ := if_neg h

set_option maxRecDepth 100000 in
set_option maxHeartbeats 3200000 in
theorem put_refused (v : Value) (l : LogD) (i : Int) (mv : Value) (more : List ByteArray) (w : World) (B : Nat) (hv : LogR w B v l) (hmv : TextsR w B mv more) (hB : B ≤ w.heap.size) (hi : -9223372036854775808 ≤ i ∧ i ≤ 9223372036854775807) (he : refE l i more.length ≠ 0) :
    Calls Tryd.prog 7 #[v, .int .i64 i, mv] w fun e w' => ∃ v', e = .returned (.tuple #[v', .int .i64 (refE l i more.length)]) ∧ LogR w' w'.heap.size v' ⟨0, []⟩ ∧ Below w.heap.size w w' := by
  have HV := ghid hv
  obtain ⟨eo, ec, rfl, ht⟩ := hv.shape
  have hmn := hmv.len
  have HMV := ghid hmv
  obtain ⟨mo, mc, rfl⟩ := hmv.slice
  have hmc := hmv.cap
  have hbx : Below w.heap.size w ((w.alloc (.cells #[.int .i64 l.base, .slice eo l.ents.length ec] 28)).alloc (.cells #[.int .i64 0, .slice none 0 0] 28)) := ((Below.refl _ _).alloc (Nat.le_refl _) _).alloc (by simp) _
  have CC := ghid (refusePut_any _ l i mo more.length mc ((w.alloc (.cells #[.int .i64 l.base, .slice eo l.ents.length ec] 28)).alloc (.cells #[.int .i64 0, .slice none 0 0] 28)) B (hv.below hbx hB) (by have := hbx.size; omega) hi hmn)
  clear hv ht hbx hmv
  obtain ⟨c, hc⟩ : ∃ c, c = refE l i more.length := ⟨_, rfl⟩
  rw [← hc] at CC he ⊢
  have hcb : (c != 0) = true := by simpa using he
  clear he hc
  go_enter Tryd.func7, Tryd.ntmps7
  go_wp2_with fail
  refine CC.out.mono ?_
  rintro e w1 ⟨rfl, hb⟩
  obtain ⟨-, hr, hbw⟩ := boxes_after (by simpa using hb)
  obtain ⟨z0, z1, zf, zl⟩ := two_free hr
  have HF := ghid (zset2 (b := w.heap.size + 1) hbw (by omega) (.int .i64 0) (.slice none 0 0))
  clear hb hbw hr CC
  go_wp2
  refine bodyPost_ret (v := .tuple #[.agg #[.int .i64 0, .slice none 0 0], .int .i64 c]) (by simp [results, Tryd.results7, go_sem, z0, z1]) rfl ?_
  exact ⟨_, rfl, LogR.nil _ _, HF.out⟩

set_option maxRecDepth 100000 in
set_option maxHeartbeats 3200000 in
theorem put_bad (v : Value) (l : LogD) (i : Int) (mv : Value) (more : List ByteArray) (w : World) (B : Nat) (hv : LogR w B v l) (hmv : TextsR w B mv more) (hB : B ≤ w.heap.size) (hi : -9223372036854775808 ≤ i ∧ i ≤ 9223372036854775807) (he : refE l i more.length = 0) (hfe : firstE (overL l i more) ≠ 0) :
    Calls Tryd.prog 7 #[v, .int .i64 i, mv] w fun e w' => ∃ v', e = .returned (.tuple #[v', .int .i64 (firstE (overL l i more))]) ∧ LogR w' w'.heap.size v' ⟨0, []⟩ ∧ Below w.heap.size w w' := by
  have HV := ghid hv
  obtain ⟨eo, ec, rfl, ht⟩ := hv.shape
  have hmn := hmv.len
  have HMV := ghid hmv
  obtain ⟨mo, mc, rfl⟩ := hmv.slice
  have hmc := hmv.cap
  have hbx : Below w.heap.size w ((w.alloc (.cells #[.int .i64 l.base, .slice eo l.ents.length ec] 28)).alloc (.cells #[.int .i64 0, .slice none 0 0] 28)) := ((Below.refl _ _).alloc (Nat.le_refl _) _).alloc (by simp) _
  have CC := ghid (refusePut_any _ l i mo more.length mc ((w.alloc (.cells #[.int .i64 l.base, .slice eo l.ents.length ec] 28)).alloc (.cells #[.int .i64 0, .slice none 0 0] 28)) B (hv.below hbx hB) (by have := hbx.size; omega) hi hmn)
  clear hv ht hbx
  obtain ⟨h0, hib, hml, hil⟩ := refE_zero he
  obtain ⟨⟨hb0, hb1, hln⟩, -⟩ := logE_zero h0
  rw [he] at CC
  obtain ⟨base, ts⟩ := l
  simp only at CC HV hb0 hb1 hln hil ⊢
  obtain ⟨p, hp⟩ : ∃ p : Nat, min (max (base - i) 0) (more.length : Int) = (p : Int) := ⟨(min (max (base - i) 0) (more.length : Int)).toNat, by omega⟩
  have hpl : p ≤ more.length := by omega
  have CO := ghid (fun u => passedOver_any base i eo mo ts.length ec more.length mc p u ⟨hb0, hb1⟩ hib hp)
  have hov : overL ⟨base, ts⟩ i more = more.drop p := by
    unfold overL
    simp only
    by_cases hle : (base - i).toNat ≤ more.length
    · rw [show (base - i).toNat = p by omega]
    · rw [List.drop_of_length_le (by omega), List.drop_of_length_le (by omega)]
  obtain ⟨f, hf⟩ : ∃ f : Nat, max (i - base) 0 = (f : Int) := ⟨(max (i - base) 0).toNat, by omega⟩
  have hfl : f ≤ ts.length := by omega
  have hah : aheadL ⟨base, ts⟩ i = f := by unfold aheadL; simp only; omega
  have HAH := ghid hah
  have HOV := ghid hov
  have hec := HV.out.part.cap
  clear h0 he hp hah hov hmv
  rw [HOV.out] at hfe ⊢
  obtain ⟨c, hc⟩ : ∃ c, c = firstE (more.drop p) := ⟨_, rfl⟩
  rw [← hc] at hfe ⊢
  have HFE := ghid hc
  have hcb : (c != 0) = true := by simpa using hfe
  clear hfe hc
  go_enter Tryd.func7, Tryd.ntmps7
  go_wp2_with fail
  refine CC.out.mono ?_
  rintro e w1 ⟨rfl, hb⟩
  obtain ⟨hx, hr, hbw⟩ := boxes_after (by simpa using hb)
  obtain ⟨c0, c1, hcl⟩ := two_cells hx
  have HB := ghid hbw
  have HX := ghid hx
  have HR := ghid hr
  clear hb hx hr hbw CC
  go_wp2_with fail
  refine (CO.out _).mono ?_
  rintro e w2 ⟨rfl, hb2⟩
  have hx2 := (hb2.block w.heap.size hcl).trans HX.out
  have HX2 := ghid hx2
  have hb02 := HB.out.trans (hb2.mono HB.out.size)
  have HB2 := ghid hb02
  have HR2 : Hid (w2.heap[w.heap.size + 1]? = _) := (hb2.block _ (Array.getElem?_eq_some_iff.1 HR.out).1).trans HR.out
  clear hb2 hx2 hb02 c0 c1 hcl CO
  go_wp2_with fail
  all_goals
    have htl := (HMV.out.below HB2.out hB).tail (k := p) hpl
    have HU := ghid (show TextsR w2 B _ (more.drop p) by first | exact htl.1 (by assumption) | exact htl.1 rfl | exact htl.2 (by assumption) | exact htl.2 (by omega))
    have hw2 : B ≤ w2.heap.size := by have := HB2.out.size; omega
    have CK := ghid (checkEntries_any _ (more.drop p) w2 B HU.out hw2)
    rw [← HFE.out] at CK
    clear htl
    refine CK.out.mono ?_
    rintro e w3 ⟨rfl, hb3⟩
    have hx3 := (hb3.block w.heap.size (Array.getElem?_eq_some_iff.1 HX2.out).1).trans HX2.out
    have hr3 := (hb3.block (w.heap.size + 1) (Array.getElem?_eq_some_iff.1 HR2.out).1).trans HR2.out
    have HX3 := ghid hx3
    have HR3 := ghid hr3
    have HB3 := ghid (HB2.out.trans (hb3.mono HB2.out.size))
    have HU3 := ghid (HU.out.below hb3 hw2)
    have hw3 : B ≤ w3.heap.size := by have := HB3.out.size; omega
    clear hb3 CK hw2
    obtain ⟨z0, z1, zf, zl⟩ := two_free hr3
    have HF := ghid (zset2 (b := w.heap.size + 1) HB3.out (by omega) (.int .i64 0) (.slice none 0 0))
    clear hx3 hr3
    go_wp2
    refine bodyPost_ret (v := .tuple #[.agg #[.int .i64 0, .slice none 0 0], .int .i64 c]) (by simp [results, Tryd.results7, go_sem, z0, z1]) rfl ?_
    exact ⟨_, rfl, LogR.nil _ _, HF.out⟩

set_option maxRecDepth 100000 in
set_option maxHeartbeats 3200000 in
theorem put_full (v : Value) (l : LogD) (i : Int) (mv : Value) (more : List ByteArray) (w : World) (B : Nat) (hv : LogR w B v l) (hmv : TextsR w B mv more) (hB : B ≤ w.heap.size) (hi : -9223372036854775808 ≤ i ∧ i ≤ 9223372036854775807) (he : refE l i more.length = 0) (hfe : firstE (overL l i more) = 0) (hfu : 400 < aheadL l i + (overL l i more).length) :
    Calls Tryd.prog 7 #[v, .int .i64 i, mv] w fun e w' => ∃ v', e = .returned (.tuple #[v', .int .i64 8]) ∧ LogR w' w'.heap.size v' ⟨0, []⟩ ∧ Below w.heap.size w w' := by
  have HV := ghid hv
  obtain ⟨eo, ec, rfl, ht⟩ := hv.shape
  have hmn := hmv.len
  have HMV := ghid hmv
  obtain ⟨mo, mc, rfl⟩ := hmv.slice
  have hmc := hmv.cap
  have hbx : Below w.heap.size w ((w.alloc (.cells #[.int .i64 l.base, .slice eo l.ents.length ec] 28)).alloc (.cells #[.int .i64 0, .slice none 0 0] 28)) := ((Below.refl _ _).alloc (Nat.le_refl _) _).alloc (by simp) _
  have CC := ghid (refusePut_any _ l i mo more.length mc ((w.alloc (.cells #[.int .i64 l.base, .slice eo l.ents.length ec] 28)).alloc (.cells #[.int .i64 0, .slice none 0 0] 28)) B (hv.below hbx hB) (by have := hbx.size; omega) hi hmn)
  clear hv ht hbx
  obtain ⟨h0, hib, hml, hil⟩ := refE_zero he
  obtain ⟨⟨hb0, hb1, hln⟩, -⟩ := logE_zero h0
  rw [he] at CC
  obtain ⟨base, ts⟩ := l
  simp only at CC HV hb0 hb1 hln hil ⊢
  obtain ⟨p, hp⟩ : ∃ p : Nat, min (max (base - i) 0) (more.length : Int) = (p : Int) := ⟨(min (max (base - i) 0) (more.length : Int)).toNat, by omega⟩
  have hpl : p ≤ more.length := by omega
  have CO := ghid (fun u => passedOver_any base i eo mo ts.length ec more.length mc p u ⟨hb0, hb1⟩ hib hp)
  have hov : overL ⟨base, ts⟩ i more = more.drop p := by
    unfold overL
    simp only
    by_cases hle : (base - i).toNat ≤ more.length
    · rw [show (base - i).toNat = p by omega]
    · rw [List.drop_of_length_le (by omega), List.drop_of_length_le (by omega)]
  obtain ⟨f, hf⟩ : ∃ f : Nat, max (i - base) 0 = (f : Int) := ⟨(max (i - base) 0).toNat, by omega⟩
  have hfl : f ≤ ts.length := by omega
  have hah : aheadL ⟨base, ts⟩ i = f := by unfold aheadL; simp only; omega
  have HAH := ghid hah
  have HOV := ghid hov
  have hec := HV.out.part.cap
  clear h0 he hp hah hov hmv
  rw [HOV.out] at hfe
  have HFE : Hid (0 = firstE (more.drop p)) := hfe.symm
  clear hfe
  rw [HOV.out, HAH.out, List.length_drop] at hfu
  have hfi : (400 : Int) < (f : Int) + ((more.length - p : Nat) : Int) := by omega
  go_enter Tryd.func7, Tryd.ntmps7
  go_wp2_with fail
  refine CC.out.mono ?_
  rintro e w1 ⟨rfl, hb⟩
  obtain ⟨hx, hr, hbw⟩ := boxes_after (by simpa using hb)
  obtain ⟨c0, c1, hcl⟩ := two_cells hx
  have HB := ghid hbw
  have HX := ghid hx
  have HR := ghid hr
  clear hb hx hr hbw CC
  go_wp2_with fail
  refine (CO.out _).mono ?_
  rintro e w2 ⟨rfl, hb2⟩
  have hx2 := (hb2.block w.heap.size hcl).trans HX.out
  have HX2 := ghid hx2
  have hb02 := HB.out.trans (hb2.mono HB.out.size)
  have HB2 := ghid hb02
  have HR2 : Hid (w2.heap[w.heap.size + 1]? = _) := (hb2.block _ (Array.getElem?_eq_some_iff.1 HR.out).1).trans HR.out
  clear hb2 hx2 hb02 c0 c1 hcl CO
  go_wp2_with fail
  all_goals
    have htl := (HMV.out.below HB2.out hB).tail (k := p) hpl
    have HU := ghid (show TextsR w2 B _ (more.drop p) by first | exact htl.1 (by assumption) | exact htl.1 rfl | exact htl.2 (by assumption) | exact htl.2 (by omega))
    have hw2 : B ≤ w2.heap.size := by have := HB2.out.size; omega
    have CK := ghid (checkEntries_any _ (more.drop p) w2 B HU.out hw2)
    rw [← HFE.out] at CK
    clear htl
    refine CK.out.mono ?_
    rintro e w3 ⟨rfl, hb3⟩
    have hx3 := (hb3.block w.heap.size (Array.getElem?_eq_some_iff.1 HX2.out).1).trans HX2.out
    have hr3 := (hb3.block (w.heap.size + 1) (Array.getElem?_eq_some_iff.1 HR2.out).1).trans HR2.out
    have HX3 := ghid hx3
    have HR3 := ghid hr3
    have HB3 := ghid (HB2.out.trans (hb3.mono HB2.out.size))
    have HU3 := ghid (HU.out.below hb3 hw2)
    have hw3 : B ≤ w3.heap.size := by have := HB3.out.size; omega
    clear hb3 CK hw2
    obtain ⟨z0, z1, zf, zl⟩ := two_free hr3
    obtain ⟨d0, d1, hdl⟩ := two_cells hx3
    have HF := ghid (zset2 (b := w.heap.size + 1) HB3.out (by omega) (.int .i64 0) (.slice none 0 0))
    clear hx3 hr3
    go_wp2
    refine bodyPost_ret (v := .tuple #[.agg #[.int .i64 0, .slice none 0 0], .int .i64 8]) (by simp [results, Tryd.results7, go_sem, z0, z1]) rfl ?_
    exact ⟨_, rfl, LogR.nil _ _, HF.out⟩

end Go.Proofs.YtkmeiilnjkmkiaiDoor
