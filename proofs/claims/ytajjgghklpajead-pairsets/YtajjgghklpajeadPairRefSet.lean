/- The document's SetOf. -/
import Derived.Test.YtajjgghklpajeadPairSet
import Derived.Test.YtajjgghklpajeadPairRef
import Derived.Deep.AppendLies
namespace Go.Proofs.Ytajjgghklpajead
open Go.RowKit

/-- The pairs that are written anew, k of the old ones looked at; the new one belongs at p. -/
def prefP (ps : List PairD) (y : PairD) (p k : Nat) : List PairD := if k ≤ p then ps.take k else ps.take p ++ y :: (ps.take k).drop p

theorem prefP_zero (ps : List PairD) (y : PairD) (p : Nat) : prefP ps y p 0 = [] := by simp [prefP]

theorem prefP_step {ps : List PairD} {y x : PairD} {p k : Nat} (hx : ps[k]? = some x) (hne : k ≠ p) : prefP ps y p (k + 1) = prefP ps y p k ++ [x] := by
  obtain ⟨hk, he⟩ := List.getElem?_eq_some_iff.1 hx
  unfold prefP
  by_cases h : k < p
  · rw [if_pos (by omega), if_pos (by omega), List.take_succ_eq_append_getElem hk, he]
  · rw [if_neg (by omega), if_neg (by omega), List.take_succ_eq_append_getElem hk, he, List.drop_append_of_le_length (by rw [List.length_take]; omega)]
    simp

theorem prefP_at {ps : List PairD} {y x : PairD} {p : Nat} (hx : ps[p]? = some x) : prefP ps y p (p + 1) = (prefP ps y p p ++ [y]) ++ [x] := by
  obtain ⟨hk, he⟩ := List.getElem?_eq_some_iff.1 hx
  unfold prefP
  rw [if_neg (by omega), if_pos (Nat.le_refl _), List.take_succ_eq_append_getElem hk, he, List.drop_append_of_le_length (by rw [List.length_take]; omega), List.drop_of_length_le (by rw [List.length_take]; omega)]
  simp

theorem prefP_end {ps : List PairD} {y : PairD} {p : Nat} (h : p < ps.length) : prefP ps y p ps.length = ps.take p ++ y :: ps.drop p := by
  unfold prefP
  rw [if_neg (by omega), List.take_of_length_le (Nat.le_refl _)]

theorem prefP_last {ps : List PairD} {y : PairD} : prefP ps y ps.length ps.length ++ [y] = ps.take ps.length ++ y :: ps.drop ps.length := by
  unfold prefP
  rw [if_pos (Nat.le_refl _), List.drop_of_length_le (Nat.le_refl _)]

theorem prefP_len {ps : List PairD} {y : PairD} {p k : Nat} (hp : p ≤ ps.length) (hk : k ≤ ps.length) : (prefP ps y p k).length ≤ k + 1 := by
  unfold prefP
  split
  · rw [List.length_take]; omega
  · simp only [List.length_append, List.length_cons, List.length_take, List.length_drop]; omega

/-- One pair more behind an own row. -/
theorem prow_more {w2 : World} {base gn cn : Nat} {L : List PairD} {x : PairD} (h : w2.ownsRow base 40 3 (.slice (some ⟨gn, 0, none⟩) (L.length + 1) cn) (L.length + 1) (flatP L ++ pairCells x)) : w2.ownsRow base 40 3 (.slice (some ⟨gn, 0, none⟩) (L.length + 1) cn) (L ++ [x]).length (flatP (L ++ [x])) := by
  rw [flatP_snoc, List.length_append]
  exact h

theorem prow_more2 {w2 : World} {base gn cn n : Nat} {L : List PairD} {x : PairD} (hn : L.length = n) (h : w2.ownsRow base 40 3 (.slice (some ⟨gn, 0, none⟩) (n + 1) cn) (n + 1) (flatP L ++ pairCells x)) : w2.ownsRow base 40 3 (.slice (some ⟨gn, 0, none⟩) (n + 1) cn) (L ++ [x]).length (flatP (L ++ [x])) := by
  subst hn
  exact prow_more h

set_option maxRecDepth 100000 in
set_option maxHeartbeats 1600000 in
theorem setOf_bad (v : Value) (ps : List PairD) (nm val : ByteArray) (w : World) (B : Nat) (hv : PairsR w B v ps) (hB : B ≤ w.heap.size) (hs : nm.size ≤ 140737488351232) (hs' : val.size ≤ 140737488351232) (hr : refuseP ps nm val ≠ 0) :
    Calls Try.prog 6 #[v, .string nm, .string val] w fun e w' => e = .returned (.tuple #[.slice none 0 0, replyP 0 0 ⟨#[]⟩, .int .i64 (refuseP ps nm val)]) ∧ Below w.heap.size w w' := by
  have hb0 : Below w.heap.size w (w.alloc (.cells #[.int .i64 0, .int .i64 0, .string ⟨#[]⟩] 25)) := (Below.refl _ _).alloc (Nat.le_refl _) _
  have CR := pairsFault_any v ps _ B (hv.below hb0 hB) (by simp; omega)
  obtain ⟨ao, cap, rfl, -⟩ := hv
  by_cases h0 : checkP ps = 0
  · rw [h0] at CR
    cases hn : nameB nm with
    | false =>
      have e : refuseP ps nm val = 4 := by simp [refuseP, h0, hn]
      rw [e]
      clear e h0 hr
      go_enter Try.func6, Try.ntmps6
      go_wp2_with fail
      refine CR.mono ?_
      rintro e w1 ⟨rfl, hb1⟩
      have HR := phid ((PReply.new w).below hb1 (by simp))
      obtain ⟨r0, r1, r2, rf⟩ := HR.out.cells
      have hq : w.heap.size < w1.heap.size := HR.out.lt
      have HB := phid (hb0.trans (hb1.mono (by simp)))
      clear hb1 hb0 CR
      go_wp2_with fail
      refine (nameMay_any nm _ (by omega)).mono ?_
      rintro e w2 ⟨rfl, rfl⟩
      rw [hn]
      go_wp2
      refine bodyPost_ret (v := .tuple #[.slice none 0 0, replyP 0 0 ⟨#[]⟩, .int .i64 4]) (by simp [results, Try.results6, go_sem, replyP, r0, r1, r2]) rfl ?_
      exact ⟨rfl, pbelow3 HB.out (Nat.le_refl _) _ _ _⟩
    | true =>
      by_cases h12 : 12 < val.size
      · have e : refuseP ps nm val = 1 := by simp [refuseP, h0, hn, h12]
        rw [e]
        clear e h0 hr
        go_enter Try.func6, Try.ntmps6
        go_wp2_with fail
        refine CR.mono ?_
        rintro e w1 ⟨rfl, hb1⟩
        have HR := phid ((PReply.new w).below hb1 (by simp))
        obtain ⟨r0, r1, r2, rf⟩ := HR.out.cells
        have hq : w.heap.size < w1.heap.size := HR.out.lt
        have HB := phid (hb0.trans (hb1.mono (by simp)))
        clear hb1 hb0 CR
        go_wp2_with fail
        refine (nameMay_any nm _ (by omega)).mono ?_
        rintro e w2 ⟨rfl, rfl⟩
        rw [hn]
        go_wp2
        refine bodyPost_ret (v := .tuple #[.slice none 0 0, replyP 0 0 ⟨#[]⟩, .int .i64 1]) (by simp [results, Try.results6, go_sem, replyP, r0, r1, r2]) rfl ?_
        exact ⟨rfl, pbelow3 HB.out (Nat.le_refl _) _ _ _⟩
      · exact absurd (by simp [refuseP, h0, hn, h12]) hr
  · have e : refuseP ps nm val = checkP ps := by simp [refuseP, h0]
    rw [e]
    obtain ⟨c, hc⟩ : ∃ c, c = checkP ps := ⟨_, rfl⟩
    rw [← hc] at CR h0 ⊢
    clear hc e hr
    have hr2 : (c != 0) = true := by simpa using h0
    have hr3 : (c == 0) = false := by simpa using h0
    clear h0
    go_enter Try.func6, Try.ntmps6
    go_wp2_with fail
    refine CR.mono ?_
    rintro e w1 ⟨rfl, hb1⟩
    have HR := phid ((PReply.new w).below hb1 (by simp))
    obtain ⟨r0, r1, r2, rf⟩ := HR.out.cells
    have hq : w.heap.size < w1.heap.size := HR.out.lt
    have HB := phid (hb0.trans (hb1.mono (by simp)))
    clear hb1 hb0 CR
    go_wp2
    refine bodyPost_ret (v := .tuple #[.slice none 0 0, replyP 0 0 ⟨#[]⟩, .int .i64 c]) (by simp [results, Try.results6, go_sem, replyP, r0, r1, r2]) rfl ?_
    exact ⟨rfl, pbelow3 HB.out (Nat.le_refl _) _ _ _⟩

set_option maxRecDepth 100000 in
set_option maxHeartbeats 3200000 in
theorem setOf_there (v : Value) (ps : List PairD) (nm val : ByteArray) (w : World) (B : Nat) (hv : PairsR w B v ps) (hB : B ≤ w.heap.size) (hs : nm.size ≤ 140737488351232) (hs' : val.size ≤ 140737488351232) (hr : refuseP ps nm val = 0) (ht : thereP ps nm = true) :
    Calls Try.prog 6 #[v, .string nm, .string val] w fun e w' => ∃ v', e = .returned (.tuple #[v', replyP (setP ps nm val).2.1 (setP ps nm val).2.2 ⟨#[]⟩, .int .i64 0]) ∧ PairsR w' w'.heap.size v' (setP ps nm val).1 ∧ Below w.heap.size w w' := by
  obtain ⟨i0, hi0, hz0, hz1, hz2⟩ := info_parts Try.infoPair
  have hb0 : Below w.heap.size w (w.alloc (.cells #[.int .i64 0, .int .i64 0, .string ⟨#[]⟩] 25)) := (Below.refl _ _).alloc (Nat.le_refl _) _
  have CR := pairsFault_any v ps _ B (hv.below hb0 hB) (by simp; omega)
  obtain ⟨hck, hnm, h12⟩ := refuseP_zero hr
  rw [hck] at CR
  have hg := checkP_good hck
  have h5 := hg.len
  have HM := phid hv.modest
  have HV := phid hv
  obtain ⟨x, hx, hxe⟩ := thereP_yes ht
  have hxv : 1 ≤ x.version ∧ x.version ≤ 1073741824 := (hg.each x (List.mem_of_getElem? hx)).2.2
  have hmm : ∀ (j : Nat) (y : PairD), j < placeP ps nm → ps[j]? = some y → y.name ≠ nm := fun j y hj hy => ltP_ne (placeP_before hj hy)
  have CP := phid (fun u w' hu => pairAt_found u ps nm (placeP ps nm) x w' w'.heap.size hu hx hxe hmm)
  have hin : placeP ps nm < ps.length := (List.getElem?_eq_some_iff.1 hx).1
  have HX := phid hx
  have HSF := phid (fun h => setP_full (val := val) hx hxe h)
  have HST := phid (fun h => setP_there (val := val) hx hxe h)
  obtain ⟨i, hi⟩ : ∃ i, i = placeP ps nm := ⟨_, rfl⟩
  rw [← hi] at HX hin HST CP
  obtain ⟨ao, cap, rfl, -, -, hnone, -⟩ := hv
  have HN : Hid (ao = none → ps.length = 0 ∧ cap = 0) := fun e => by
    have h1 := hnone e
    obtain ⟨_, _, e2, hle, -⟩ := HV.out
    simp only [Value.slice.injEq] at e2
    omega
  obtain ⟨xn, xv, xe⟩ := x
  simp only at hxv HST HSF
  clear hr hck hg hx hxe hi ht hmm hnone
  by_cases hfull : xe = 1073741824
  · rw [HSF.out hfull]
    have hf : (1073741824 : Int) ≤ xe := by omega
    simp only
    clear HSF HST hfull
    go_enter Try.func6, Try.ntmps6
    go_wp2_with fail
    refine CR.mono ?_
    rintro e w1 ⟨rfl, hb1⟩
    have HR1 := phid ((PReply.new w).below hb1 (by simp))
    have HB1 := phid (hb0.trans (hb1.mono (by simp)))
    clear hb1 hb0 CR
    go_wp2_with fail
    refine (nameMay_any nm _ (by omega)).mono ?_
    rintro e w1' ⟨rfl, rfl⟩
    rw [hnm]
    have HNW := phid (pairs_news HV.out (HB1.out.mono hB))
    go_wp2_with (at_builtin; refine wpList_append_fresh rfl _ (.tmp 35) 22 rfl 40 i0 _ 3 40 Try.underlying22 hi0 hz0 hz1 hz2 rfl (by decide) rfl ao ps.length cap (flatP ps) rfl HN.out (flatP_length ps) HNW.out (flatP_one ps) (by unfold maxLen; omega) (by omega) ?_)
    intro v2 w2 hown2 hgrow2
    have hb2 : Below w1'.heap.size w1' w2 := (Below.refl _ _).grown hgrow2 (Nat.le_refl _) (fun k hk => by cases hk)
    have HR2 := phid (HR1.out.below hb2 HR1.out.lt)
    have HB2 := phid (HB1.out.trans (hb2.mono HB1.out.size))
    obtain ⟨g, cap2, rfl, hg1, hg2, hg3⟩ := prow_some hown2 (by omega)
    have HO2 := phid hown2
    have hrd := pairs_reads hown2 HM.out (by omega) (Nat.le_refl _)
    obtain ⟨d0, d1, d2, df⟩ := prow_cells hown2 HX.out rfl
    simp only at d0 d1 d2
    clear hb2 hown2 hgrow2
    go_wp2_with fail
    refine (CP.out _ _ hrd).mono ?_
    rintro e w3 ⟨rfl, rfl⟩
    obtain ⟨r0, r1, r2, rf⟩ := HR2.out.cells
    have hq : w.heap.size < w3.heap.size := HR2.out.lt
    have hq1 : w.heap.size < w1'.heap.size := HR1.out.lt
    clear hrd CP
    go_wp2
    refine bodyPost_ret (v := .tuple #[.slice (some ⟨g, 0, none⟩) ps.length cap2, replyP 8 0 ⟨#[]⟩, .int .i64 0]) (by simp [results, Try.results6, go_sem, replyP, r0, r1, r2]) rfl ⟨_, rfl, ?_, pbelow3 HB2.out (Nat.le_refl _) _ _ _⟩
    exact pairs_reads (prow_low3 HO2.out hq1 _ _ _) HM.out (by omega) (Nat.le_refl _)
  · rw [HST.out hfull]
    have hf : ¬ (1073741824 : Int) ≤ xe := by omega
    have hxe2 : xe + 1 ≤ 1073741824 := by omega
    simp only
    clear HSF HST hfull
    go_enter Try.func6, Try.ntmps6
    go_wp2_with fail
    refine CR.mono ?_
    rintro e w1 ⟨rfl, hb1⟩
    have HR1 := phid ((PReply.new w).below hb1 (by simp))
    have HB1 := phid (hb0.trans (hb1.mono (by simp)))
    clear hb1 hb0 CR
    go_wp2_with fail
    refine (nameMay_any nm _ (by omega)).mono ?_
    rintro e w1' ⟨rfl, rfl⟩
    rw [hnm]
    have HNW := phid (pairs_news HV.out (HB1.out.mono hB))
    go_wp2_with (at_builtin; refine wpList_append_fresh rfl _ (.tmp 35) 22 rfl 40 i0 _ 3 40 Try.underlying22 hi0 hz0 hz1 hz2 rfl (by decide) rfl ao ps.length cap (flatP ps) rfl HN.out (flatP_length ps) HNW.out (flatP_one ps) (by unfold maxLen; omega) (by omega) ?_)
    intro v2 w2 hown2 hgrow2
    have hb2 : Below w1'.heap.size w1' w2 := (Below.refl _ _).grown hgrow2 (Nat.le_refl _) (fun k hk => by cases hk)
    have HR2 := phid (HR1.out.below hb2 HR1.out.lt)
    have HB2 := phid (HB1.out.trans (hb2.mono HB1.out.size))
    obtain ⟨g, cap2, rfl, hg1, hg2, hg3⟩ := prow_some hown2 (by omega)
    have HO2 := phid hown2
    have hrd := pairs_reads hown2 HM.out (by omega) (Nat.le_refl _)
    obtain ⟨d0, d1, d2, df⟩ := prow_cells hown2 HX.out rfl
    simp only at d0 d1 d2
    clear hb2 hown2 hgrow2
    go_wp2_with fail
    refine (CP.out _ _ hrd).mono ?_
    rintro e w3 ⟨rfl, rfl⟩
    obtain ⟨r0, r1, r2, rf⟩ := HR2.out.cells
    have hq : w.heap.size < w3.heap.size := HR2.out.lt
    have hq1 : w.heap.size < w1'.heap.size := HR1.out.lt
    have hq3 : w.heap.size ≠ g := by omega
    have hq4 : g ≠ w.heap.size := by omega
    clear hrd CP
    go_wp2_with fail
    go_region
    all_goals
      go_wp2
      refine bodyPost_ret (v := .tuple #[.slice (some ⟨g, 0, none⟩) ps.length cap2, replyP 0 (xe + 1) ⟨#[]⟩, .int .i64 0]) (by simp [results, Try.results6, go_sem, replyP, r0, r1, r2]) rfl ⟨_, rfl, ?_, ?_⟩
      · exact ((pset_fin HO2.out rfl HX.out hq1 HM.out val (xe + 1) hs' h5 _ _ _).below (Below.refl _ _).drew (Nat.le_refl _)).mono (by simp [World.setCell])
      · exact (pset_below HB2.out (by omega) (Nat.le_refl _) _ _ _ _ _).drew
end Go.Proofs.Ytajjgghklpajead
