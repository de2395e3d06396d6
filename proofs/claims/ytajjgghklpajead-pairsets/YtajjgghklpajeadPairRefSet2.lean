/- The document's SetOf at a name that isn't there. -/
import Derived.Test.YtajjgghklpajeadPairRefSet
namespace Go.Proofs.Ytajjgghklpajead
open Go.RowKit

set_option maxRecDepth 100000 in
set_option maxHeartbeats 6400000 in
theorem setOf_none (v : Value) (ps : List PairD) (nm val : ByteArray) (w : World) (B : Nat) (hv : PairsR w B v ps) (hB : B ≤ w.heap.size) (hs : nm.size ≤ 140737488351232) (hs' : val.size ≤ 140737488351232) (hr : refuseP ps nm val = 0) (ht : thereP ps nm = false) :
    Calls Try.prog 6 #[v, .string nm, .string val] w fun e w' => ∃ v', e = .returned (.tuple #[v', replyP (setP ps nm val).2.1 (setP ps nm val).2.2 ⟨#[]⟩, .int .i64 0]) ∧ PairsR w' w'.heap.size v' (setP ps nm val).1 ∧ Below w.heap.size w w' := by
  obtain ⟨i0, hi0, hz0, hz1, hz2⟩ := info_parts Try.infoPair
  have hb0 : Below w.heap.size w (w.alloc (.cells #[.int .i64 0, .int .i64 0, .string ⟨#[]⟩] 25)) := (Below.refl _ _).alloc (Nat.le_refl _) _
  have CR := pairsFault_any v ps _ B (hv.below hb0 hB) (by simp; omega)
  obtain ⟨hck, hnm, h12⟩ := refuseP_zero hr
  rw [hck] at CR
  have hg := checkP_good hck
  have h5 := hg.len
  have HM := phid hv.modest
  have HV := phid hv
  have CP := phid (fun u w' hu => pairAt_none u ps nm w' w'.heap.size hu (thereP_no hg ht))
  have hin := placeP_le ps nm
  have HSF := phid (fun h => setP_noroom (val := val) ht h)
  have HST := phid (fun h => setP_new (val := val) ht h)
  have HLT : Hid (∀ (j : Nat) (x : PairD), j < placeP ps nm → ps[j]? = some x → leP x.name nm = true) := fun j x hj hx => by
    have := placeP_before hj hx
    unfold leP
    unfold ltP at this
    rw [this]
    rfl
  have HGT : Hid (∀ x, ps[placeP ps nm]? = some x → leP x.name nm = false) := fun x hx => leP_of_lt (ltP_total (placeP_at hx) (thereP_no hg ht _ x hx))
  obtain ⟨p, hp⟩ : ∃ p, p = placeP ps nm := ⟨_, rfl⟩
  rw [← hp] at hin HST HLT HGT
  obtain ⟨ao, cap, rfl, -, -, hnone, -⟩ := hv
  have HN : Hid (ao = none → ps.length = 0 ∧ cap = 0) := fun e => by
    have h1 := hnone e
    obtain ⟨_, _, e2, hle, -⟩ := HV.out
    simp only [Value.slice.injEq] at e2
    omega
  clear hr hck hg ht hp hnone
  by_cases hfull : ps.length = 5
  · rw [HSF.out hfull]
    have hf : (5 : Int) ≤ ps.length := by omega
    simp only
    clear HSF HST hfull
    go_enter Try.func6, Try.ntmps6
    go_wp2_with fail
    refine CR.mono ?_
    rintro e w1 ⟨rfl, hb1⟩
    have HR1 := phid ((PReply.new w).below hb1 (by simp))
    have HB1 := phid (hb0.trans (hb1.mono (by simp)))
    clear hb1 hb0 CR
    go_wp2_with fail
    refine (nameMay_any nm _ (by omega)).mono ?_
    rintro e w1' ⟨rfl, rfl⟩
    rw [hnm]
    have HNW := phid (pairs_news HV.out (HB1.out.mono hB))
    go_wp2_with (at_builtin; refine wpList_append_fresh rfl _ (.tmp 35) 22 rfl 40 i0 _ 3 40 Try.underlying22 hi0 hz0 hz1 hz2 rfl (by decide) rfl ao ps.length cap (flatP ps) rfl HN.out (flatP_length ps) HNW.out (flatP_one ps) (by unfold maxLen; omega) (by omega) ?_)
    intro v2 w2 hown2 hgrow2
    have hb2 : Below w1'.heap.size w1' w2 := (Below.refl _ _).grown hgrow2 (Nat.le_refl _) (fun k hk => by cases hk)
    have HR2 := phid (HR1.out.below hb2 HR1.out.lt)
    have HB2 := phid (HB1.out.trans (hb2.mono HB1.out.size))
    obtain ⟨g, cap2, rfl, hg1, hg2, hg3⟩ := prow_some hown2 (by omega)
    have HO2 := phid hown2
    have hrd := pairs_reads hown2 HM.out (by omega) (Nat.le_refl _)
    clear hb2 hown2 hgrow2
    go_wp2_with fail
    refine (CP.out _ _ hrd).mono ?_
    rintro e w3 ⟨rfl, rfl⟩
    obtain ⟨r0, r1, r2, rf⟩ := HR2.out.cells
    have hq : w.heap.size < w3.heap.size := HR2.out.lt
    have hq1 : w.heap.size < w1'.heap.size := HR1.out.lt
    clear hrd CP
    go_wp2
    refine bodyPost_ret (v := .tuple #[.slice (some ⟨g, 0, none⟩) ps.length cap2, replyP 8 0 ⟨#[]⟩, .int .i64 0]) (by simp [results, Try.results6, go_sem, replyP, r0, r1, r2]) rfl ⟨_, rfl, ?_, pbelow3 HB2.out (Nat.le_refl _) _ _ _⟩
    exact pairs_reads (prow_low3 HO2.out hq1 _ _ _) HM.out (by omega) (Nat.le_refl _)
  · rw [HST.out hfull]
    have hf : ¬ (5 : Int) ≤ ps.length := by omega
    have h4 : ps.length < 5 := by omega
    simp only
    clear HSF HST hfull
    go_enter Try.func6, Try.ntmps6
    go_wp2_with fail
    refine CR.mono ?_
    rintro e w1 ⟨rfl, hb1⟩
    have HR1 := phid ((PReply.new w).below hb1 (by simp))
    have HB1 := phid (hb0.trans (hb1.mono (by simp)))
    clear hb1 hb0 CR
    go_wp2_with fail
    refine (nameMay_any nm _ (by omega)).mono ?_
    rintro e w1' ⟨rfl, rfl⟩
    rw [hnm]
    have HNW := phid (pairs_news HV.out (HB1.out.mono hB))
    go_wp2_with (at_builtin; refine wpList_append_fresh rfl _ (.tmp 35) 22 rfl 40 i0 _ 3 40 Try.underlying22 hi0 hz0 hz1 hz2 rfl (by decide) rfl ao ps.length cap (flatP ps) rfl HN.out (flatP_length ps) HNW.out (flatP_one ps) (by unfold maxLen; omega) (by omega) ?_)
    intro v2 w2 hown2 hgrow2
    have hb2 : Below w1'.heap.size w1' w2 := (Below.refl _ _).grown hgrow2 (Nat.le_refl _) (fun k hk => by cases hk)
    have HR2 := phid (HR1.out.below hb2 HR1.out.lt)
    have HB2 := phid (HB1.out.trans (hb2.mono HB1.out.size))
    have hrd := pairs_reads hown2 HM.out (by omega) (Nat.le_refl _)
    have HRD := phid hrd
    obtain ⟨ao2, cap2, rfl⟩ := prow_shape hown2
    have hq1 : w.heap.size < w1'.heap.size := HR1.out.lt
    clear hb2 hown2 hgrow2 HV HNW HN
    go_wp2_with fail
    refine (CP.out _ _ hrd).mono ?_
    rintro e w3 ⟨rfl, rfl⟩
    clear hrd CP
    go_wp2_with fail
    go_loopw [12, 13, 14] (fun o d i wr => ∃ (k : Nat), k ≤ ps.length ∧ i = .int .i64 k ∧ d = .bool (decide (p < k)) ∧ wr.ownsRow w3.heap.size 40 3 o (prefP ps ⟨nm, val, 1⟩ p k).length (flatP (prefP ps ⟨nm, val, 1⟩ p k)) ∧ Below w3.heap.size w3 wr)
      (fun _ _ i _ => ps.length - (intOf i).toNat)
    case atStart => exact ⟨0, Nat.zero_le _, rfl, rfl, by rw [prefP_zero]; exact World.ownsRow_nil _ _ _ _, Below.refl _ _⟩
    case round =>
      obtain ⟨k, hk, rfl, rfl, hown, hb⟩ := hrel
      have hL := prefP_len (y := ⟨nm, val, 1⟩) hin hk
      by_cases hlt : k < ps.length
      · obtain ⟨ao3, cap3, e3, hl1, hl2, hl3, hl4⟩ := HRD.out
        simp only [Value.slice.injEq] at e3
        obtain ⟨rfl, -, rfl⟩ := e3
        obtain ⟨b, off, rfl, hbB, hc⟩ := hl4 (by omega)
        obtain ⟨x, hx⟩ : ∃ x, ps[k]? = some x := ⟨_, List.getElem?_eq_getElem hlt⟩
        obtain ⟨c0, c1, c2, hs0, hs1⟩ := (hc k x hx).below hbB hb
        have HX := phid hx
        obtain ⟨oo, oc, rfl⟩ := prow_shape hown
        have HO := phid hown
        have HB := phid hb
        have hsz := hb.size
        obtain ⟨L, hLe⟩ : ∃ L, L = prefP ps ⟨nm, val, 1⟩ p k := ⟨_, rfl⟩
        rw [← hLe] at HO hL ⊢
        have HLE := phid hLe
        obtain ⟨xn, xv, xe⟩ := x
        simp only at c0 c1 c2
        clear hx hc hl4 hown hb hLe hl3
        by_cases hkp : k = p
        · subst hkp
          have hgt : leP xn nm = false := HGT.out _ HX.out
          have hgt2 : (Op.bytesLess xn.toList nm.toList || xn.toList == nm.toList) = false := hgt
          have hd : decide (k < k) = false := decide_eq_false (by omega)
          rw [hd]
          clear hgt
          have hbr : b < wr.heap.size := by omega
          go_wp2_with (at_builtin; refine wpList_append_lies _ rfl (.tmp 92) (.tmp 96) 22 rfl w3.heap.size 40 i0 _ 3 40 Try.underlying22 hi0 hz0 hz1 hz2 rfl (by decide) (.slice oo L.length oc) L.length (flatP L) rfl (HO.out.alloc _) ⟨wr.heap.size, 0, none⟩ 1 1 (pairCells ⟨nm, val, 1⟩) rfl rfl (World.news_of_block (heap_alloc_new wr _)) (pairCells_one _) (by omega) (by unfold maxLen; omega) (by omega) (by simp; omega) (wr.heap.size + 1) (by simp) ?_)
          intro g4 c4 w4 hown4 hgrow4 hat4 hlt4
          have hb4 : Below w3.heap.size w3 w4 := (HB.out.alloc hsz _).grown hgrow4 (by simp; omega) (fun c hc => (HO.out.lt c hc).1)
          have HO4 := phid (prow_more (x := ⟨nm, val, 1⟩) hown4)
          have kk : ∀ j, w4.cell? ⟨b, j, none⟩ = wr.cell? ⟨b, j, none⟩ := fun j => (hb4.cell (p := ⟨b, j, none⟩) hbB).trans (HB.out.cell (p := ⟨b, j, none⟩) hbB).symm
          have e0 := (kk _).trans c0
          have e1 := (kk _).trans c1
          have e2 := (kk _).trans c2
          have hsz4 := hb4.size
          have HB4 := phid hb4
          have hbr4 : b < w4.heap.size := by omega
          have HL4 : Hid ((L ++ [(⟨nm, val, 1⟩ : PairD)]).length = L.length + 1) := by unfold Hid; simp
          clear hown4 hgrow4 hat4 kk c0 c1 c2 hb4
          go_wp2_with (at_builtin; refine wpList_append_lies _ rfl (.tmp 98) (.tmp 103) 22 rfl w3.heap.size 40 i0 _ 3 40 Try.underlying22 hi0 hz0 hz1 hz2 rfl (by decide) (.slice (some ⟨g4, 0, none⟩) (L.length + 1) c4) (L ++ [(⟨nm, val, 1⟩ : PairD)]).length (flatP (L ++ [(⟨nm, val, 1⟩ : PairD)])) rfl (HO4.out.alloc _) ⟨w4.heap.size, 0, none⟩ 1 1 (pairCells ⟨xn, xv, xe⟩) rfl rfl (World.news_of_block (heap_alloc_new w4 _)) (pairCells_one _) (by omega) (by have := HL4.out; unfold maxLen; omega) (by have := HL4.out; omega) (by simp; omega) (w4.heap.size + 1) (by simp) ?_)
          intro g5 c5 w5 hown5 hgrow5 hat5 hlt5
          have HB5 := phid ((HB4.out.alloc hsz4 (.cells #[.string xn, .string xv, .int .i64 xe] 40)).grown hgrow5 (by simp; omega) (fun c hc => (HO4.out.lt c hc).1))
          have HO5 := phid (prow_more2 (x := ⟨xn, xv, xe⟩) HL4.out hown5)
          clear hown5 hgrow5 hat5
          go_wp2
          go_roundw
          case rel =>
            refine ⟨k + 1, by omega, by go_num, by simp, ?_, HB5.out⟩
            rw [prefP_at HX.out, ← HLE.out]
            exact HO5.out
          case measure => simp [intOf]; omega
        · have HST := phid (prefP_step (y := ⟨nm, val, 1⟩) HX.out hkp)
          have hbr : b < wr.heap.size := by omega
          by_cases hlp : k < p
          · have hle : leP xn nm = true := HLT.out k _ hlp HX.out
            have hle2 : (Op.bytesLess xn.toList nm.toList || xn.toList == nm.toList) = true := hle
            have hd : decide (p < k) = false := decide_eq_false (by omega)
            have HD : Hid (decide (p < k + 1) = false) := decide_eq_false (by omega)
            rw [hd]
            clear hle
            go_wp2_with (at_builtin; refine wpList_append_lies _ rfl (.tmp 98) (.tmp 103) 22 rfl w3.heap.size 40 i0 _ 3 40 Try.underlying22 hi0 hz0 hz1 hz2 rfl (by decide) (.slice oo L.length oc) L.length (flatP L) rfl (HO.out.alloc _) ⟨wr.heap.size, 0, none⟩ 1 1 (pairCells ⟨xn, xv, xe⟩) rfl rfl (World.news_of_block (heap_alloc_new wr _)) (pairCells_one _) (by omega) (by unfold maxLen; omega) (by omega) (by simp; omega) (wr.heap.size + 1) (by simp) ?_)
            intro g5 c5 w5 hown5 hgrow5 hat5 hlt5
            have HB5 := phid ((HB.out.alloc hsz (.cells #[.string xn, .string xv, .int .i64 xe] 40)).grown hgrow5 (by simp; omega) (fun c hc => (HO.out.lt c hc).1))
            have HO5 := phid (prow_more (x := ⟨xn, xv, xe⟩) hown5)
            clear hown5 hgrow5 hat5
            go_wp2
            go_roundw
            case rel =>
              refine ⟨k + 1, by omega, by go_num, by rw [HD.out], ?_, HB5.out⟩
              rw [HST.out, ← HLE.out]
              exact HO5.out
            case measure => simp [intOf]; omega
          · have hd : decide (p < k) = true := decide_eq_true (by omega)
            have HD : Hid (decide (p < k + 1) = true) := decide_eq_true (by omega)
            rw [hd]
            go_wp2_with (at_builtin; refine wpList_append_lies _ rfl (.tmp 98) (.tmp 103) 22 rfl w3.heap.size 40 i0 _ 3 40 Try.underlying22 hi0 hz0 hz1 hz2 rfl (by decide) (.slice oo L.length oc) L.length (flatP L) rfl (HO.out.alloc _) ⟨wr.heap.size, 0, none⟩ 1 1 (pairCells ⟨xn, xv, xe⟩) rfl rfl (World.news_of_block (heap_alloc_new wr _)) (pairCells_one _) (by omega) (by unfold maxLen; omega) (by omega) (by simp; omega) (wr.heap.size + 1) (by simp) ?_)
            intro g5 c5 w5 hown5 hgrow5 hat5 hlt5
            have HB5 := phid ((HB.out.alloc hsz (.cells #[.string xn, .string xv, .int .i64 xe] 40)).grown hgrow5 (by simp; omega) (fun c hc => (HO.out.lt c hc).1))
            have HO5 := phid (prow_more (x := ⟨xn, xv, xe⟩) hown5)
            clear hown5 hgrow5 hat5
            go_wp2
            go_roundw
            case rel =>
              refine ⟨k + 1, by omega, by go_num, by rw [HD.out], ?_, HB5.out⟩
              rw [HST.out, ← HLE.out]
              exact HO5.out
            case measure => simp [intOf]; omega
      · have hkl : k = ps.length := by omega
        subst hkl
        obtain ⟨oo, oc, rfl⟩ := prow_shape hown
        have HR4 := phid (HR2.out.below hb HR2.out.lt)
        have hsz := hb.size
        have HB := phid (HB2.out.trans (hb.mono HB2.out.size))
        have HM2 := phid (HM.out.insert p (ver := 1) hs hs')
        have HLL := phid (mid_len ps p ⟨nm, val, 1⟩ hin)
        have hq3 : w.heap.size < w3.heap.size := HR2.out.lt
        by_cases hpl : p < ps.length
        · have hd : decide (p < ps.length) = true := decide_eq_true hpl
          rw [hd]
          have HE := phid (prefP_end (y := ⟨nm, val, 1⟩) hpl)
          have HO : Hid (wr.ownsRow w3.heap.size 40 3 (.slice oo (prefP ps ⟨nm, val, 1⟩ p ps.length).length oc) (ps.take p ++ ⟨nm, val, 1⟩ :: ps.drop p).length (flatP (ps.take p ++ ⟨nm, val, 1⟩ :: ps.drop p))) := by
            unfold Hid
            rw [← HE.out]
            exact hown
          obtain ⟨r0, r1, r2, rf⟩ := HR4.out.cells
          have hq : w.heap.size < wr.heap.size := HR4.out.lt
          clear hown hb
          go_wp2
          refine bodyPost_ret (v := .tuple #[.slice oo (prefP ps ⟨nm, val, 1⟩ p ps.length).length oc, replyP 0 1 ⟨#[]⟩, .int .i64 0]) (by simp [results, Try.results6, go_sem, replyP, r0, r1, r2]) rfl ⟨_, rfl, ?_, pbelow3 HB.out (Nat.le_refl _) _ _ _⟩
          exact pairs_reads (prow_low3 HO.out hq3 _ _ _) HM2.out (by rw [HLL.out]; omega) (Nat.le_refl _)
        · have hpe : p = ps.length := by omega
          subst hpe
          have hd : decide (ps.length < ps.length) = false := decide_eq_false (by omega)
          rw [hd]
          have HE := phid (prefP_last (ps := ps) (y := ⟨nm, val, 1⟩))
          obtain ⟨L, hLe⟩ : ∃ L, L = prefP ps ⟨nm, val, 1⟩ ps.length ps.length := ⟨_, rfl⟩
          rw [← hLe] at hown hL HE ⊢
          have HO := phid hown
          have HB3 := phid hb
          clear hown hb hLe
          go_wp2_with (at_builtin; refine wpList_append_lies _ rfl (.tmp 107) (.tmp 111) 22 rfl w3.heap.size 40 i0 _ 3 40 Try.underlying22 hi0 hz0 hz1 hz2 rfl (by decide) (.slice oo L.length oc) L.length (flatP L) rfl (HO.out.alloc _) ⟨wr.heap.size, 0, none⟩ 1 1 (pairCells ⟨nm, val, 1⟩) rfl rfl (World.news_of_block (heap_alloc_new wr _)) (pairCells_one _) (by omega) (by unfold maxLen; omega) (by omega) (by simp; omega) (wr.heap.size + 1) (by simp) ?_)
          intro g5 c5 w5 hown5 hgrow5 hat5 hlt5
          have hb5 := (HB3.out.alloc hsz (.cells #[.string nm, .string val, .int .i64 1] 40)).grown hgrow5 (by simp; omega) (fun c hc => (HO.out.lt c hc).1)
          have HR5 := phid (HR2.out.below hb5 HR2.out.lt)
          have HB5 := phid (HB2.out.trans (hb5.mono HB2.out.size))
          have HO5 : Hid (w5.ownsRow w3.heap.size 40 3 (.slice (some ⟨g5, 0, none⟩) (L.length + 1) c5) (ps.take ps.length ++ ⟨nm, val, 1⟩ :: ps.drop ps.length).length (flatP (ps.take ps.length ++ ⟨nm, val, 1⟩ :: ps.drop ps.length))) := by
            unfold Hid
            rw [← HE.out]
            exact prow_more (x := ⟨nm, val, 1⟩) hown5
          obtain ⟨r0, r1, r2, rf⟩ := HR5.out.cells
          have hq : w.heap.size < w5.heap.size := HR5.out.lt
          clear hown5 hgrow5 hat5 hb5
          go_wp2
          refine bodyPost_ret (v := .tuple #[.slice (some ⟨g5, 0, none⟩) (L.length + 1) c5, replyP 0 1 ⟨#[]⟩, .int .i64 0]) (by simp [results, Try.results6, go_sem, replyP, r0, r1, r2]) rfl ⟨_, rfl, ?_, pbelow3 HB5.out (Nat.le_refl _) _ _ _⟩
          exact pairs_reads (prow_low3 HO5.out hq3 _ _ _) HM2.out (by rw [HLL.out]; omega) (Nat.le_refl _)

theorem setOf_ok (v : Value) (ps : List PairD) (nm val : ByteArray) (w : World) (B : Nat) (hv : PairsR w B v ps) (hB : B ≤ w.heap.size) (hs : nm.size ≤ 140737488351232) (hs' : val.size ≤ 140737488351232) (hr : refuseP ps nm val = 0) :
    Calls Try.prog 6 #[v, .string nm, .string val] w fun e w' => ∃ v', e = .returned (.tuple #[v', replyP (setP ps nm val).2.1 (setP ps nm val).2.2 ⟨#[]⟩, .int .i64 0]) ∧ PairsR w' w'.heap.size v' (setP ps nm val).1 ∧ Below w.heap.size w w' := by
  cases ht : thereP ps nm with
  | true => exact setOf_there v ps nm val w B hv hB hs hs' hr ht
  | false => exact setOf_none v ps nm val w B hv hB hs hs' hr ht
end Go.Proofs.Ytajjgghklpajead
