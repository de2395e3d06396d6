/- log.Put, where nothing is refused; log.Cut (joined by program) -/
import Derived.Test.YtkmeiilnjkmkiaiDoorLC18
import Derived.Test.YtkmeiilnjkmkiaiDoorLC15
import Derived.Test.YtkmeiilnjkmkiaiDoorLC17
namespace Go.Proofs.YtkmeiilnjkmkiaiDoor

open Go.RowKit

set_option maxRecDepth 100000 in
set_option maxHeartbeats 3200000 in
theorem put_stands (v : Value) (l : LogD) (i : Int) (mv : Value) (more : List ByteArray) (w : World) (B : Nat) (hv : LogR w B v l) (hmv : TextsR w B mv more) (hB : B ≤ w.heap.size) (hi : -9223372036854775808 ≤ i ∧ i ≤ 9223372036854775807) (he : refE l i more.length = 0) (hfe : firstE (overL l i more) = 0) (hop : opens (overL l i more) (l.ents.drop (aheadL l i)) = true) :
    Calls Tryd.prog 7 #[v, .int .i64 i, mv] w fun e w' => ∃ v', e = .returned (.tuple #[v', .int .i64 0]) ∧ LogR w' w'.heap.size v' l ∧ Below w.heap.size w w' := by
  have HV := ghid hv
  obtain ⟨eo, ec, rfl, ht⟩ := hv.shape
  have hmn := hmv.len
  have HMV := ghid hmv
  obtain ⟨mo, mc, rfl⟩ := hmv.slice
  have hmc := hmv.cap
  have hbx : Below w.heap.size w ((w.alloc (.cells #[.int .i64 l.base, .slice eo l.ents.length ec] 28)).alloc (.cells #[.int .i64 0, .slice none 0 0] 28)) := ((Below.refl _ _).alloc (Nat.le_refl _) _).alloc (by simp) _
  have CC := ghid (refusePut_any _ l i mo more.length mc ((w.alloc (.cells #[.int .i64 l.base, .slice eo l.ents.length ec] 28)).alloc (.cells #[.int .i64 0, .slice none 0 0] 28)) B (hv.below hbx hB) (by have := hbx.size; omega) hi hmn)
  clear hv ht hbx
  obtain ⟨h0, hib, hml, hil⟩ := refE_zero he
  obtain ⟨⟨hb0, hb1, hln⟩, -⟩ := logE_zero h0
  rw [he] at CC
  obtain ⟨base, ts⟩ := l
  simp only at CC HV hb0 hb1 hln hil ⊢
  obtain ⟨p, hp⟩ : ∃ p : Nat, min (max (base - i) 0) (more.length : Int) = (p : Int) := ⟨(min (max (base - i) 0) (more.length : Int)).toNat, by omega⟩
  have hpl : p ≤ more.length := by omega
  have CO := ghid (fun u => passedOver_any base i eo mo ts.length ec more.length mc p u ⟨hb0, hb1⟩ hib hp)
  have hov : overL ⟨base, ts⟩ i more = more.drop p := by
    unfold overL
    simp only
    by_cases hle : (base - i).toNat ≤ more.length
    · rw [show (base - i).toNat = p by omega]
    · rw [List.drop_of_length_le (by omega), List.drop_of_length_le (by omega)]
  obtain ⟨f, hf⟩ : ∃ f : Nat, max (i - base) 0 = (f : Int) := ⟨(max (i - base) 0).toNat, by omega⟩
  have hfl : f ≤ ts.length := by omega
  have hah : aheadL ⟨base, ts⟩ i = f := by unfold aheadL; simp only; omega
  have HAH := ghid hah
  have HOV := ghid hov
  have hec := HV.out.part.cap
  clear h0 he hp hah hov hmv
  rw [HOV.out] at hfe
  have HFE : Hid (0 = firstE (more.drop p)) := hfe.symm
  clear hfe
  rw [HOV.out, HAH.out] at hop
  have hfu : f + (more.length - p) ≤ 400 := by
    have := congrArg List.length (opens_iff.1 hop)
    simp only [List.length_take, List.length_drop] at this
    omega
  have hfi : (f : Int) + ((more.length - p : Nat) : Int) ≤ 400 := by omega
  have HOP := ghid hop
  clear hop
  go_enter Tryd.func7, Tryd.ntmps7
  go_wp2_with fail
  refine CC.out.mono ?_
  rintro e w1 ⟨rfl, hb⟩
  obtain ⟨hx, hr, hbw⟩ := boxes_after (by simpa using hb)
  obtain ⟨c0, c1, hcl⟩ := two_cells hx
  have HB := ghid hbw
  have HX := ghid hx
  have HR := ghid hr
  clear hb hx hr hbw CC
  go_wp2_with fail
  refine (CO.out _).mono ?_
  rintro e w2 ⟨rfl, hb2⟩
  have hx2 := (hb2.block w.heap.size hcl).trans HX.out
  have HX2 := ghid hx2
  have hb02 := HB.out.trans (hb2.mono HB.out.size)
  have HB2 := ghid hb02
  have HR2 : Hid (w2.heap[w.heap.size + 1]? = _) := (hb2.block _ (Array.getElem?_eq_some_iff.1 HR.out).1).trans HR.out
  clear hb2 hx2 hb02 c0 c1 hcl CO
  go_wp2_with fail
  all_goals
    have htl := (HMV.out.below HB2.out hB).tail (k := p) hpl
    have HU := ghid (show TextsR w2 B _ (more.drop p) by first | exact htl.1 (by assumption) | exact htl.1 rfl | exact htl.2 (by assumption) | exact htl.2 (by omega))
    have hw2 : B ≤ w2.heap.size := by have := HB2.out.size; omega
    have CK := ghid (checkEntries_any _ (more.drop p) w2 B HU.out hw2)
    rw [← HFE.out] at CK
    clear htl
    refine CK.out.mono ?_
    rintro e w3 ⟨rfl, hb3⟩
    have hx3 := (hb3.block w.heap.size (Array.getElem?_eq_some_iff.1 HX2.out).1).trans HX2.out
    have hr3 := (hb3.block (w.heap.size + 1) (Array.getElem?_eq_some_iff.1 HR2.out).1).trans HR2.out
    have HX3 := ghid hx3
    have HR3 := ghid hr3
    have HB3 := ghid (HB2.out.trans (hb3.mono HB2.out.size))
    have HU3 := ghid (HU.out.below hb3 hw2)
    have hw3 : B ≤ w3.heap.size := by have := HB3.out.size; omega
    clear hb3 CK hw2
    obtain ⟨d0, d1, hdl⟩ := two_cells hx3
    clear hx3 hr3
    go_wp2_with fail
    all_goals
      have htl2 := (HV.out.part.below HB3.out hB).tail (k := f) hfl
      have HT := ghid (show TextsR w3 B _ (ts.drop f) by first | exact htl2.1 (by assumption) | exact htl2.1 rfl | exact htl2.2 (by assumption) | exact htl2.2 (by omega))
      clear htl2
      first
        | (have hef : f = ec := Eq.symm (by assumption)
           subst hef)
        | skip
      refine (beginsWith_below _ _ (ts.drop f) (more.drop p) w3 B B HT.out HU3.out).mono ?_
      rintro e w4 ⟨rfl, hb4⟩
      rw [HOP.out]
      have hx4 := (hb4.block w.heap.size (Array.getElem?_eq_some_iff.1 HX3.out).1).trans HX3.out
      have hr4 := (hb4.block (w.heap.size + 1) (Array.getElem?_eq_some_iff.1 HR3.out).1).trans HR3.out
      have HX4 := ghid hx4
      have HR4 := ghid hr4
      have HB4 := ghid (HB3.out.trans (hb4.mono HB3.out.size))
      have HU4 := ghid (HU3.out.below hb4 hw3)
      have hw4 : B ≤ w4.heap.size := by have := HB4.out.size; omega
      have hrl : w.heap.size + 1 < w4.heap.size := (Array.getElem?_eq_some_iff.1 hr4).1
      clear hb4 HX3 HR3 HU3 HT hw3 d0 d1 hdl
      obtain ⟨d0, d1, hdl⟩ := two_cells hx4
      have CP := ghid (logCopy_own _ ⟨base, ts⟩ w4 B (HV.out.below HB4.out hB) hw4)
      simp only at CP
      go_wp2_with fail
      refine CP.out.mono ?_
      rintro e w5 ⟨vo, vc, rfl, hown5, hb5⟩
      have hr5 := (hb5.block (w.heap.size + 1) hrl).trans HR4.out
      obtain ⟨z0, z1, zf, zl⟩ := two_free hr5
      have HR1 := ghid (row_reads2 (b := w.heap.size + 1) hown5 HV.out.part.sizes HV.out.part.len (by omega) (.int .i64 base) (.slice vo ts.length vc))
      have HB5 := ghid (zset2 (b := w.heap.size + 1) (HB4.out.trans (hb5.mono HB4.out.size)) (by omega) (.int .i64 base) (.slice vo ts.length vc))
      clear hown5 hb5 hr5 CP
      go_wp2
      refine bodyPost_ret (v := .tuple #[.agg #[.int .i64 base, .slice vo ts.length vc], .int .i64 0]) (by simp [results, Tryd.results7, go_sem, z0, z1]) rfl ?_
      exact ⟨_, rfl, ⟨_, rfl, HR1.out⟩, HB5.out⟩

set_option maxRecDepth 100000 in
set_option maxHeartbeats 3200000 in
theorem put_anew (v : Value) (l : LogD) (i : Int) (mv : Value) (more : List ByteArray) (w : World) (B : Nat) (hv : LogR w B v l) (hmv : TextsR w B mv more) (hB : B ≤ w.heap.size) (hi : -9223372036854775808 ≤ i ∧ i ≤ 9223372036854775807) (he : refE l i more.length = 0) (hfe : firstE (overL l i more) = 0) (hop : opens (overL l i more) (l.ents.drop (aheadL l i)) = false) (hfu : aheadL l i + (overL l i more).length ≤ 400) :
    Calls Tryd.prog 7 #[v, .int .i64 i, mv] w fun e w' => ∃ v', e = .returned (.tuple #[v', .int .i64 0]) ∧ LogR w' w'.heap.size v' ⟨l.base, l.ents.take (aheadL l i) ++ overL l i more⟩ ∧ Below w.heap.size w w' := by
  have HV := ghid hv
  obtain ⟨eo, ec, rfl, ht⟩ := hv.shape
  have hmn := hmv.len
  have HMV := ghid hmv
  obtain ⟨mo, mc, rfl⟩ := hmv.slice
  have hmc := hmv.cap
  have hbx : Below w.heap.size w ((w.alloc (.cells #[.int .i64 l.base, .slice eo l.ents.length ec] 28)).alloc (.cells #[.int .i64 0, .slice none 0 0] 28)) := ((Below.refl _ _).alloc (Nat.le_refl _) _).alloc (by simp) _
  have CC := ghid (refusePut_any _ l i mo more.length mc ((w.alloc (.cells #[.int .i64 l.base, .slice eo l.ents.length ec] 28)).alloc (.cells #[.int .i64 0, .slice none 0 0] 28)) B (hv.below hbx hB) (by have := hbx.size; omega) hi hmn)
  clear hv ht hbx
  obtain ⟨h0, hib, hml, hil⟩ := refE_zero he
  obtain ⟨⟨hb0, hb1, hln⟩, -⟩ := logE_zero h0
  rw [he] at CC
  obtain ⟨base, ts⟩ := l
  simp only at CC HV hb0 hb1 hln hil ⊢
  obtain ⟨p, hp⟩ : ∃ p : Nat, min (max (base - i) 0) (more.length : Int) = (p : Int) := ⟨(min (max (base - i) 0) (more.length : Int)).toNat, by omega⟩
  have hpl : p ≤ more.length := by omega
  have CO := ghid (fun u => passedOver_any base i eo mo ts.length ec more.length mc p u ⟨hb0, hb1⟩ hib hp)
  have hov : overL ⟨base, ts⟩ i more = more.drop p := by
    unfold overL
    simp only
    by_cases hle : (base - i).toNat ≤ more.length
    · rw [show (base - i).toNat = p by omega]
    · rw [List.drop_of_length_le (by omega), List.drop_of_length_le (by omega)]
  obtain ⟨f, hf⟩ : ∃ f : Nat, max (i - base) 0 = (f : Int) := ⟨(max (i - base) 0).toNat, by omega⟩
  have hfl : f ≤ ts.length := by omega
  have hah : aheadL ⟨base, ts⟩ i = f := by unfold aheadL; simp only; omega
  have HAH := ghid hah
  have HOV := ghid hov
  have hec := HV.out.part.cap
  clear h0 he hp hah hov hmv
  rw [HOV.out] at hfe
  have HFE : Hid (0 = firstE (more.drop p)) := hfe.symm
  clear hfe
  rw [HOV.out, HAH.out] at hop
  rw [HOV.out, HAH.out, List.length_drop] at hfu
  rw [HOV.out, HAH.out]
  have hfi : (f : Int) + ((more.length - p : Nat) : Int) ≤ 400 := by omega
  have hfc : (f : Int) ≤ (ec : Int) := by omega
  have hfp : 0 ≤ (f : Int) := by omega
  have HOP := ghid hop
  have HLU : Hid ((ts.take f ++ more.drop p).length * 16 ≤ 140737488351232) := (by rw [List.length_append, List.length_take, List.length_drop]; omega : (ts.take f ++ more.drop p).length * 16 ≤ 140737488351232)
  have HMU : Hid (∀ t ∈ ts.take f ++ more.drop p, t.size ≤ 140737488351232) := fun t ht => by
    rcases List.mem_append.1 ht with h | h
    · exact HV.out.part.sizes t (List.mem_of_mem_take h)
    · exact HMV.out.sizes t (List.mem_of_mem_drop h)
  clear hop
  go_enter Tryd.func7, Tryd.ntmps7
  go_wp2_with fail
  refine CC.out.mono ?_
  rintro e w1 ⟨rfl, hb⟩
  obtain ⟨hx, hr, hbw⟩ := boxes_after (by simpa using hb)
  obtain ⟨c0, c1, hcl⟩ := two_cells hx
  have HB := ghid hbw
  have HX := ghid hx
  have HR := ghid hr
  clear hb hx hr hbw CC
  go_wp2_with fail
  refine (CO.out _).mono ?_
  rintro e w2 ⟨rfl, hb2⟩
  have hx2 := (hb2.block w.heap.size hcl).trans HX.out
  have HX2 := ghid hx2
  have hb02 := HB.out.trans (hb2.mono HB.out.size)
  have HB2 := ghid hb02
  have HR2 : Hid (w2.heap[w.heap.size + 1]? = _) := (hb2.block _ (Array.getElem?_eq_some_iff.1 HR.out).1).trans HR.out
  clear hb2 hx2 hb02 c0 c1 hcl CO
  go_wp2_with fail
  all_goals
    have htl := (HMV.out.below HB2.out hB).tail (k := p) hpl
    have HU := ghid (show TextsR w2 B _ (more.drop p) by first | exact htl.1 (by assumption) | exact htl.1 rfl | exact htl.2 (by assumption) | exact htl.2 (by omega))
    have hw2 : B ≤ w2.heap.size := by have := HB2.out.size; omega
    have CK := ghid (checkEntries_any _ (more.drop p) w2 B HU.out hw2)
    rw [← HFE.out] at CK
    clear htl
    refine CK.out.mono ?_
    rintro e w3 ⟨rfl, hb3⟩
    have hx3 := (hb3.block w.heap.size (Array.getElem?_eq_some_iff.1 HX2.out).1).trans HX2.out
    have hr3 := (hb3.block (w.heap.size + 1) (Array.getElem?_eq_some_iff.1 HR2.out).1).trans HR2.out
    have HX3 := ghid hx3
    have HR3 := ghid hr3
    have HB3 := ghid (HB2.out.trans (hb3.mono HB2.out.size))
    have HU3 := ghid (HU.out.below hb3 hw2)
    have hw3 : B ≤ w3.heap.size := by have := HB3.out.size; omega
    clear hb3 CK hw2
    obtain ⟨d0, d1, hdl⟩ := two_cells hx3
    clear hx3 hr3
    go_wp2_with fail
    all_goals
      have htl2 := (HV.out.part.below HB3.out hB).tail (k := f) hfl
      have HT := ghid (show TextsR w3 B _ (ts.drop f) by first | exact htl2.1 (by assumption) | exact htl2.1 rfl | exact htl2.2 (by assumption) | exact htl2.2 (by omega))
      clear htl2
      first
        | (have hef : f = ec := Eq.symm (by assumption)
           subst hef)
        | skip
      refine (beginsWith_below _ _ (ts.drop f) (more.drop p) w3 B B HT.out HU3.out).mono ?_
      rintro e w4 ⟨rfl, hb4⟩
      rw [HOP.out]
      have hx4 := (hb4.block w.heap.size (Array.getElem?_eq_some_iff.1 HX3.out).1).trans HX3.out
      have hr4 := (hb4.block (w.heap.size + 1) (Array.getElem?_eq_some_iff.1 HR3.out).1).trans HR3.out
      have HX4 := ghid hx4
      have HR4 := ghid hr4
      have HB4 := ghid (HB3.out.trans (hb4.mono HB3.out.size))
      have HU4 := ghid (HU3.out.below hb4 hw3)
      have hw4 : B ≤ w4.heap.size := by have := HB4.out.size; omega
      have hrl : w.heap.size + 1 < w4.heap.size := (Array.getElem?_eq_some_iff.1 hr4).1
      clear hb4 HX3 HR3 HU3 HT hw3 d0 d1 hdl
      obtain ⟨d0, d1, hdl⟩ := two_cells hx4
      have CJ := ghid (join_twoD w4 B _ _ (ts.take f) (more.drop p) ((HV.out.part.below HB4.out hB).front (k := f) hfl) HU4.out hw4 (by rw [List.length_take, List.length_drop]; omega))
      obtain ⟨n, hn⟩ : ∃ n, n = (ts.take f ++ more.drop p).length := ⟨_, rfl⟩
      rw [← hn] at CJ
      have HN := ghid hn
      clear hn
      go_wp2_with fail
      first
        | (go_region_held3 (fun w' => w'.cell? ⟨w.heap.size, 0, none⟩ = some (.int .i64 base) ∧ w'.cell? ⟨w.heap.size, 1, none⟩ = some (.slice eo ts.length ec)) (go_keep)
             (first
             | (go_at_call 21; refine CJ.out.mono ?_; rintro e w5 ⟨vo, vc, rfl, hown5, hb5⟩; have hx5 := (hb5.block w.heap.size hdl).trans HX4.out; obtain ⟨x0, x1, xl⟩ := two_cells hx5; have hr5 := (hb5.block (w.heap.size + 1) hrl).trans HR4.out; obtain ⟨z0, z1, zf, zl⟩ := two_free hr5)))
        | (go_region_held3 (fun w' => w'.cell? ⟨w.heap.size, 0, none⟩ = some (.int .i64 base) ∧ w'.cell? ⟨w.heap.size, 1, none⟩ = some (.slice eo ts.length f)) (go_keep)
             (first
             | (go_at_call 21; refine CJ.out.mono ?_; rintro e w5 ⟨vo, vc, rfl, hown5, hb5⟩; have hx5 := (hb5.block w.heap.size hdl).trans HX4.out; obtain ⟨x0, x1, xl⟩ := two_cells hx5; have hr5 := (hb5.block (w.heap.size + 1) hrl).trans HR4.out; obtain ⟨z0, z1, zf, zl⟩ := two_free hr5)))
      have HR1 := ghid (row_reads2 (b := w.heap.size + 1) (HN.out ▸ hown5) HMU.out HLU.out (by omega) (.int .i64 base) (.slice vo n vc))
      rw [← HN.out] at HR1
      have HB5 := ghid (zset2 (b := w.heap.size + 1) (HB4.out.trans (hb5.mono HB4.out.size)) (by omega) (.int .i64 base) (.slice vo n vc))
      clear hown5 hb5 hr5 CJ
      go_wp2
      refine bodyPost_ret (v := .tuple #[.agg #[.int .i64 base, .slice vo n vc], .int .i64 0]) (by simp [results, Tryd.results7, go_sem, z0, z1]) rfl ?_
      exact ⟨_, rfl, ⟨_, rfl, HR1.out⟩, HB5.out⟩

end Go.Proofs.YtkmeiilnjkmkiaiDoor

namespace Go.Proofs.YtkmeiilnjkmkiaiDoor

open Go.RowKit

set_option maxRecDepth 100000 in
set_option maxHeartbeats 1600000 in
theorem cut_any (v : Value) (l : LogD) (i : Int) (w : World) (B : Nat) (hv : LogR w B v l) (hB : B ≤ w.heap.size) (hi : -9223372036854775808 ≤ i ∧ i ≤ 9223372036854775807) :
    Calls Tryd.prog 12 #[v, .int .i64 i] w fun e w' => ∃ v', e = .returned (.tuple #[v', .int .i64 (cutE l i)]) ∧ LogR w' w'.heap.size v' (cutL l i) ∧ Below w.heap.size w w' := by
  have HV := ghid hv
  obtain ⟨eo, ec, rfl, ht⟩ := hv.shape
  have hbx : Below w.heap.size w ((w.alloc (.cells #[.int .i64 l.base, .slice eo l.ents.length ec] 28)).alloc (.cells #[.int .i64 0, .slice none 0 0] 28)) := ((Below.refl _ _).alloc (Nat.le_refl _) _).alloc (by simp) _
  have CC := ghid (logCheck_any _ l ((w.alloc (.cells #[.int .i64 l.base, .slice eo l.ents.length ec] 28)).alloc (.cells #[.int .i64 0, .slice none 0 0] 28)) B (hv.below hbx hB) (by have := hbx.size; omega))
  clear hv ht hbx
  by_cases h0 : logE l = 0
  · obtain ⟨⟨hb0, hb1, hln⟩, -⟩ := logE_zero h0
    rw [h0] at CC
    have CL := ghid (fun u => last_raw l.base eo l.ents.length ec u ⟨hb0, hb1, hln⟩)
    obtain ⟨base, ts⟩ := l
    simp only at CC CL HV hb0 hb1 hln ⊢
    have HE0 := ghid h0
    clear h0
    by_cases h1 : i < base
    · have HE : Hid (cutE ⟨base, ts⟩ i = 2) := by
        unfold Hid cutE lastL
        rw [HE0.out, if_neg (by simp), if_pos (by simp only; omega)]
      have HL : Hid (cutL ⟨base, ts⟩ i = ⟨0, []⟩) := by
        unfold Hid cutL
        rw [if_neg (by rw [HE.out]; decide)]
      rw [HE.out, HL.out]
      go_enter Tryd.func12, Tryd.ntmps12
      go_wp2_with fail
      refine CC.out.mono ?_
      rintro e w1 ⟨rfl, hb⟩
      obtain ⟨hx, hr, hbw⟩ := boxes_after (by simpa using hb)
      obtain ⟨c0, c1, hcl⟩ := two_cells hx
      have HB := ghid hbw
      obtain ⟨z0, z1, zf, zl⟩ := two_free hr
      have HF := ghid (zset2 (b := w.heap.size + 1) HB.out (by omega) (.int .i64 0) (.slice none 0 0))
      clear hb hx hr hbw CC
      go_wp2
      refine bodyPost_ret (v := .tuple #[.agg #[.int .i64 0, .slice none 0 0], .int .i64 2]) (by simp [results, Tryd.results12, go_sem, z0, z1]) rfl ?_
      exact ⟨_, rfl, LogR.nil _ _, HF.out⟩
    · by_cases h2 : base + ts.length < i
      · have HE : Hid (cutE ⟨base, ts⟩ i = 2) := by
          unfold Hid cutE lastL
          rw [HE0.out, if_neg (by simp), if_pos (by simp only; omega)]
        have HL : Hid (cutL ⟨base, ts⟩ i = ⟨0, []⟩) := by
          unfold Hid cutL
          rw [if_neg (by rw [HE.out]; decide)]
        rw [HE.out, HL.out]
        go_enter Tryd.func12, Tryd.ntmps12
        go_wp2_with fail
        refine CC.out.mono ?_
        rintro e w1 ⟨rfl, hb⟩
        obtain ⟨hx, hr, hbw⟩ := boxes_after (by simpa using hb)
        obtain ⟨c0, c1, hcl⟩ := two_cells hx
        have HB := ghid hbw
        have HR := ghid hr
        clear hb hx hr hbw CC
        go_wp2_with fail
        refine (CL.out _).mono ?_
        rintro e w2 ⟨rfl, hb2⟩
        have hr2 : w2.heap[w.heap.size + 1]? = _ := (hb2.block _ (Array.getElem?_eq_some_iff.1 HR.out).1).trans HR.out
        obtain ⟨z0, z1, zf, zl⟩ := two_free hr2
        have HF := ghid (zset2 (b := w.heap.size + 1) (HB.out.trans (hb2.mono HB.out.size)) (by omega) (.int .i64 0) (.slice none 0 0))
        clear hb2 hr2 c0 c1 hcl
        go_wp2
        refine bodyPost_ret (v := .tuple #[.agg #[.int .i64 0, .slice none 0 0], .int .i64 2]) (by simp [results, Tryd.results12, go_sem, z0, z1]) rfl ?_
        exact ⟨_, rfl, LogR.nil _ _, HF.out⟩
      · by_cases h3 : 1073741424 < i
        · have HE : Hid (cutE ⟨base, ts⟩ i = 8) := by
            unfold Hid cutE lastL
            rw [HE0.out, if_neg (by simp), if_neg (by simp only; omega), if_pos h3]
          have HL : Hid (cutL ⟨base, ts⟩ i = ⟨0, []⟩) := by
            unfold Hid cutL
            rw [if_neg (by rw [HE.out]; decide)]
          rw [HE.out, HL.out]
          go_enter Tryd.func12, Tryd.ntmps12
          go_wp2_with fail
          refine CC.out.mono ?_
          rintro e w1 ⟨rfl, hb⟩
          obtain ⟨hx, hr, hbw⟩ := boxes_after (by simpa using hb)
          obtain ⟨c0, c1, hcl⟩ := two_cells hx
          have HB := ghid hbw
          have HR := ghid hr
          clear hb hx hr hbw CC
          go_wp2_with fail
          refine (CL.out _).mono ?_
          rintro e w2 ⟨rfl, hb2⟩
          have hr2 : w2.heap[w.heap.size + 1]? = _ := (hb2.block _ (Array.getElem?_eq_some_iff.1 HR.out).1).trans HR.out
          obtain ⟨z0, z1, zf, zl⟩ := two_free hr2
          have HF := ghid (zset2 (b := w.heap.size + 1) (HB.out.trans (hb2.mono HB.out.size)) (by omega) (.int .i64 0) (.slice none 0 0))
          clear hb2 hr2 c0 c1 hcl
          go_wp2
          refine bodyPost_ret (v := .tuple #[.agg #[.int .i64 0, .slice none 0 0], .int .i64 8]) (by simp [results, Tryd.results12, go_sem, z0, z1]) rfl ?_
          exact ⟨_, rfl, LogR.nil _ _, HF.out⟩
        · have HE : Hid (cutE ⟨base, ts⟩ i = 0) := by
            unfold Hid cutE lastL
            rw [HE0.out, if_neg (by simp), if_neg (by simp only; omega), if_neg h3]
          have HL : Hid (cutL ⟨base, ts⟩ i = ⟨i, ts.drop (i - base).toNat⟩) := by
            unfold Hid cutL
            rw [if_pos HE.out]
          rw [HE.out, HL.out]
          have hi1 : 0 ≤ i - base := by omega
          have hi2 : i - base ≤ (ts.length : Int) := by omega
          have hec := HV.out.part.cap
          have HM := ghid HV.out.part.sizes
          go_enter Tryd.func12, Tryd.ntmps12
          go_wp2_with fail
          refine CC.out.mono ?_
          rintro e w1 ⟨rfl, hb⟩
          obtain ⟨hx, hr, hbw⟩ := boxes_after (by simpa using hb)
          obtain ⟨c0, c1, hcl⟩ := two_cells hx
          have HB := ghid hbw
          have HX := ghid hx
          have HR := ghid hr
          clear hb hx hr hbw CC
          go_wp2_with fail
          refine (CL.out _).mono ?_
          rintro e w2 ⟨rfl, hb2⟩
          have hx2 := (hb2.block w.heap.size hcl).trans HX.out
          obtain ⟨d0, d1, hdl⟩ := two_cells hx2
          have hb02 := HB.out.trans (hb2.mono HB.out.size)
          have HB2 := ghid hb02
          have HR2 : Hid (w2.heap[w.heap.size + 1]? = _) := (hb2.block _ (Array.getElem?_eq_some_iff.1 HR.out).1).trans HR.out
          clear hb2 hx2 hb02 c0 c1 hcl
          go_wp2_with fail
          all_goals
            have htl := (HV.out.part.below HB2.out hB).tail (k := (i - base).toNat) (by omega)
            have CJ := ghid (join_one w2 B _ _ (by first | exact htl.1 (by assumption) | exact htl.2 (by assumption)) (by have := HB2.out.size; omega))
            have HLD : Hid ((ts.drop (i - base).toNat).length * 16 ≤ 140737488351232) := (by rw [List.length_drop]; omega : (ts.drop (i - base).toNat).length * 16 ≤ 140737488351232)
            clear htl d0 d1 hdl
            refine CJ.out.mono ?_
            rintro e w3 ⟨vo, vc, rfl, hown, hb3⟩
            have hrx : w3.heap[w.heap.size + 1]? = _ := (hb3.block _ (Array.getElem?_eq_some_iff.1 HR2.out).1).trans HR2.out
            obtain ⟨z0, z1, zf, zl⟩ := two_free hrx
            have HR1 := ghid (row_reads2 (b := w.heap.size + 1) hown (fun t ht => HM.out t (List.mem_of_mem_drop ht)) HLD.out (by have := (Array.getElem?_eq_some_iff.1 HR2.out).1; omega) (.int .i64 i) (.slice vo (ts.drop (i - base).toNat).length vc))
            have HB3 := ghid (zset2 (b := w.heap.size + 1) (HB2.out.trans (hb3.mono HB2.out.size)) (by omega) (.int .i64 i) (.slice vo (ts.drop (i - base).toNat).length vc))
            obtain ⟨n3, hn3⟩ : ∃ n3, n3 = (ts.drop (i - base).toNat).length := ⟨_, rfl⟩
            rw [← hn3] at HR1 HB3 ⊢
            clear hrx hown hb3 CJ hn3
            go_wp2
            refine bodyPost_ret (v := .tuple #[.agg #[.int .i64 i, .slice vo n3 vc], .int .i64 0]) (by simp [results, Tryd.results12, go_sem, z0, z1]) rfl ?_
            exact ⟨_, rfl, ⟨_, rfl, HR1.out⟩, HB3.out⟩
  · have HE : Hid (cutE l i = logE l) := if_pos h0
    have HL : Hid (cutL l i = ⟨0, []⟩) := by
      unfold Hid cutL
      rw [if_neg (by rw [HE.out]; exact h0)]
    rw [HE.out, HL.out]
    obtain ⟨c, hc⟩ : ∃ c, c = logE l := ⟨_, rfl⟩
    rw [← hc] at CC h0 ⊢
    have hcb : (c != 0) = true := by simpa using h0
    clear h0 hc
    go_enter Tryd.func12, Tryd.ntmps12
    go_wp2_with fail
    refine CC.out.mono ?_
    rintro e w1 ⟨rfl, hb⟩
    obtain ⟨-, hr, hbw⟩ := boxes_after (by simpa using hb)
    obtain ⟨z0, z1, zf, zl⟩ := two_free hr
    have HF := ghid (zset2 (b := w.heap.size + 1) hbw (by omega) (.int .i64 0) (.slice none 0 0))
    clear hb hbw hr CC
    go_wp2
    refine bodyPost_ret (v := .tuple #[.agg #[.int .i64 0, .slice none 0 0], .int .i64 c]) (by simp [results, Tryd.results12, go_sem, z0, z1]) rfl ?_
    exact ⟨_, rfl, LogR.nil _ _, HF.out⟩

end Go.Proofs.YtkmeiilnjkmkiaiDoor
