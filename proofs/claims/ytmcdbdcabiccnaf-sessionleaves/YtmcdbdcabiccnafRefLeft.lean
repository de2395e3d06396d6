/- The document's LeftOf. (Written by gen_leave.py.) -/
import Derived.Test.YtmcdbdcabiccnafRefSessF
import Derived.Test.YtmcdbdcabiccnafRefSessCopy
import Derived.Test.YtmcdbdcabiccnafRefSessAt
import Derived.Test.YtmcdbdcabiccnafSessAdd
import Derived.Test.YtmcdbdcabiccnafSessReply
import Derived.Test.YtmcdbdcabiccnafSessLeaveMath
namespace Go.Proofs.Ytmcdbdcabiccnaf
open Go.RowKit

set_option maxRecDepth 100000 in
set_option maxHeartbeats 1600000 in
theorem leftOf_bad (v : Value) (ls : List SessD) (i c : Int) (w : World) (B : Nat) (hv : SessR w B v ls) (hB : B ≤ w.heap.size) (hr : checkS ls i ≠ 0) :
    Calls Try.prog 10 #[v, .int .i64 i, .int .i64 c] w fun e w' => e = .returned (.tuple #[.slice none 0 0, .agg #[.int .i64 0, .int .i64 0, .string ⟨#[]⟩], .int .i64 (checkS ls i)]) ∧ Below w.heap.size w w' := by
  have hb0 : Below w.heap.size w (w.alloc (.cells #[.int .i64 0, .int .i64 0, .string ⟨#[]⟩] 26)) := (Below.refl _ _).alloc (Nat.le_refl _) _
  have CR := sessionsFault_any v ls i _ B (hv.below hb0 hB) (by simp; omega)
  obtain ⟨ao, cap, rfl, -⟩ := hv
  obtain ⟨ec, hec⟩ : ∃ ec, ec = checkS ls i := ⟨_, rfl⟩
  rw [← hec] at CR hr ⊢
  have hr2 : (ec == 0) = false := by simpa using hr
  clear hec
  go_enter Try.func10, Try.ntmps10
  go_wp2_with fail
  refine CR.mono ?_
  rintro e w1 ⟨rfl, hb1⟩
  have HR1 := ghid ((GReply.new w).below hb1 (by simp))
  have HB1 := ghid (hb0.trans (hb1.mono (by simp)))
  clear hb1 hb0 CR
  obtain ⟨r0, r1, r2, rf⟩ := HR1.out.cells
  have hq : w.heap.size < w1.heap.size := HR1.out.lt
  go_wp2
  refine bodyPost_ret (v := .tuple #[.slice none 0 0, .agg #[.int .i64 0, .int .i64 0, .string ⟨#[]⟩], .int .i64 ec]) (by simp [results, Try.results10, go_sem, r0, r1, r2]) rfl ?_
  exact ⟨rfl, gbelow3 HB1.out (Nat.le_refl _) _ _ _⟩

set_option maxRecDepth 100000 in
set_option maxHeartbeats 3200000 in
theorem leftOf_ok (v : Value) (ls : List SessD) (i c : Int) (w : World) (B : Nat) (hv : SessR w B v ls) (hB : B ≤ w.heap.size) (hr : checkS ls i = 0) :
    Calls Try.prog 10 #[v, .int .i64 i, .int .i64 c] w fun e w' => ∃ v', e = .returned (.tuple #[v', .agg #[.int .i64 (leaveS ls c).2.code, .int .i64 (leaveS ls c).2.n, .string (leaveS ls c).2.text], .int .i64 0]) ∧ SessR w' w'.heap.size v' (leaveS ls c).1 ∧ Below w.heap.size w w' := by
  have hb0 : Below w.heap.size w (w.alloc (.cells #[.int .i64 0, .int .i64 0, .string ⟨#[]⟩] 26)) := (Below.refl _ _).alloc (Nat.le_refl _) _
  have CR := sessionsFault_any v ls i _ B (hv.below hb0 hB) (by simp; omega)
  have HGD := ghid (checkS_zero hr)
  have hl4 := HGD.out.len
  rw [hr] at CR
  have HV := ghid hv
  have hin : placeS ls c ≤ ls.length := List.findIdx_le_length
  obtain ⟨i0, hi, hz0, hz1, hz2⟩ := info_parts Try.infoSess
  obtain ⟨ao, cap, rfl, -⟩ := hv
  cases ht : thereS ls c with
  | true =>
    obtain ⟨x, hx, hxc⟩ := thereS_some ht
    rw [leaveS_there ht]
    have CP := ghid (fun u w' hu => sessionAt_found u ls c (placeS ls c) x w' w'.heap.size hu hx hxc (fun j y hj hy => by have := placeS_before hj hy; omega))
    have hlt : placeS ls c < ls.length := (List.getElem?_eq_some_iff.1 hx).1
    obtain ⟨n, hne⟩ : ∃ n, n = placeS ls c := ⟨_, rfl⟩
    rw [← hne] at CP hin hlt ⊢
    simp only
    clear hne ht hr hx hxc
    go_enter Try.func10, Try.ntmps10
    go_wp2_with fail
    refine CR.mono ?_
    rintro e w1 ⟨rfl, hb1⟩
    have HR1 := ghid ((GReply.new w).below hb1 (by simp))
    have HB1 := ghid (hb0.trans (hb1.mono (by simp)))
    clear hb1 hb0 CR
    go_wp2_with fail
    refine (sessionsCopy_any _ ls w1 B (HV.out.below HB1.out hB) (by have := HB1.out.size; omega)).mono ?_
    rintro e w2 ⟨v2, rs, rfl, hrs, hown2, hb2⟩
    have HR2 := ghid (HR1.out.below hb2 HR1.out.lt)
    have HB2 := ghid (HB1.out.trans (hb2.mono HB1.out.size))
    have HRS := ghid hrs
    have HO2 := ghid hown2
    have hrd := hown2.reads (Nat.le_refl _)
    rw [hrs] at hrd
    have hz12 : w1.heap.size ≤ w2.heap.size := hb2.size
    clear hb2 hown2 hrs
    go_wp2_with fail
    refine (CP.out _ _ hrd).mono ?_
    rintro e w9 ⟨rfl, hw⟩
    subst w9
    obtain ⟨r0, r1, r2, rf⟩ := HR2.out.cells
    have hq : w.heap.size < w2.heap.size := HR2.out.lt
    have hq1 : w.heap.size < w1.heap.size := HR1.out.lt
    clear hrd CP
    have hrl : rs.length = ls.length := by rw [← HRS.out, List.length_map]
    obtain ⟨g, gc, hge, -, hgl, hgc⟩ := grow_some HO2.out.row (by omega)
    subst hge
    have hrow := HO2.out.row
    have HL1 : Hid ((flatG sessCells (rs.take n)).length = n * 5) := by unfold Hid; rw [flatG_length sessCells_len, List.length_take]; congr 1; omega
    have HL2 : Hid ((flatG sessCells (rs.drop (n + 1))).length = (ls.length - (n + 1)) * 5) := by unfold Hid; rw [flatG_length sessCells_len, List.length_drop, hrl]
    have HC1 : Hid (∀ j u, (flatG sessCells (rs.take n))[j]? = some u → w2.cell? ⟨g, j, none⟩ = some u) := by
      intro j u hj
      have hjl := (List.getElem?_eq_some_iff.1 hj).1
      rw [HL1.out] at hjl
      rw [hrow.cellAt j (by have : n * 5 ≤ rs.length * 5 := Nat.mul_le_mul_right _ (by omega)
                            omega)]
      rw [← flatG_take sessCells_len, List.getElem?_take, if_pos hjl] at hj
      exact hj
    have HC2 : Hid (∀ j u, (flatG sessCells (rs.drop (n + 1)))[j]? = some u → w2.cell? ⟨g, (n + 1) * 5 + j, none⟩ = some u) := by
      intro j u hj
      have hjl := (List.getElem?_eq_some_iff.1 hj).1
      rw [HL2.out] at hjl
      rw [hrow.cellAt ((n + 1) * 5 + j) (by have : (n + 1) * 5 + (ls.length - (n + 1)) * 5 = rs.length * 5 := by rw [← Nat.add_mul]; congr 1; omega
                                            omega)]
      rw [← flatG_drop sessCells_len rs (n + 1) (by omega), List.getElem?_drop] at hj
      exact hj
    have HA := ghid (sflat_one HO2.out.reps)
    have H1 : Hid (∀ u ∈ flatG sessCells (rs.take n), u.oneCell' = true) := fun u hu => HA.out u (by rw [← List.take_append_drop n rs, flatG_append]; exact List.mem_append_left _ hu)
    have H2 : Hid (∀ u ∈ flatG sessCells (rs.drop (n + 1)), u.oneCell' = true) := fun u hu => HA.out u (by rw [← List.take_append_drop (n + 1) rs, flatG_append]; exact List.mem_append_right _ hu)
    have HM := ghid (map_erase (n := n) HRS.out)
    have HER : Hid (rs.take n ++ rs.drop (n + 1) = rs.eraseIdx n) := by unfold Hid; rw [List.eraseIdx_eq_take_drop_succ]
    have HEL : Hid ((rs.eraseIdx n).length = ls.length - 1) := by unfold Hid; rw [List.length_eraseIdx, if_pos (by omega), hrl]
    have HRL := ghid hrl
    have hgc' : ls.length ≤ gc := by omega
    rw [hrl] at HO2 ⊢
    have hng : n ≤ gc := by omega
    have hng1 : n + 1 ≤ gc := by omega
    have hng2 : ¬ gc = n := by omega
    clear hrow hrl hgc
    by_cases hgn : gc = n + 1
    · have hln : ls.length = n + 1 := by omega
      have HD0 : Hid (rs.drop (n + 1) = []) := List.drop_of_length_le (by rw [HRL.out]; omega)
      have hln2 : ls.length - (n + 1) = 0 := by omega
      have HLN := ghid hln
      subst hgn
      clear hln
      go_wp2_with (at_builtin; refine gappend_fresh rfl _ (.tmp 31) 22 rfl 51 i0 _ 5 56 Try.underlying22 hi hz0 hz1 hz2 rfl (by decide) rfl (some ⟨g, 0, none⟩) n (n + 1) (flatG sessCells (rs.take n)) rfl (by intro h; cases h) HL1.out (by intro a ha j u hj; simp only [Option.some.injEq] at ha; subst ha; rw [gadd, Nat.zero_add]; exact HC1.out j u hj) H1.out (by unfold maxLen; omega) (by omega) ?_)
      intro v3 w3 hown3 hgrow3
      have hb3 : Below w2.heap.size w2 w3 := (Below.refl _ _).grown hgrow3 (Nat.le_refl _) (fun c hc => by cases hc)
      have hz23 : w2.heap.size ≤ w3.heap.size := hb3.size
      have HO3 := ghid hown3
      obtain ⟨vo, vc, rfl⟩ := grow_shape hown3
      clear hown3 hgrow3
      go_wp2_with (at_builtin; refine wpList_append_own _ rfl (.tmp 33) (.tmp 37) 22 rfl w2.heap.size 51 i0 _ 5 56 Try.underlying22 hi hz0 hz1 hz2 rfl (by decide) (.slice vo n vc) n (flatG sessCells (rs.take n)) rfl HO3.out ⟨g, 0, none⟩ 0 0 [] (by simp [Act.eval]) (by rfl) (by intro j u hj; simp at hj) (by intro u hu; simp at hu) (by unfold maxLen; omega) (by omega) (by omega) ?_)
      intro v4 w4 hown4 hg4 _
      have hb4 : Below w2.heap.size w2 w4 := hb3.grown hg4 hz23 (fun c hc => (HO3.out.lt c hc).1)
      have HF : Hid (OwnS w4 w1.heap.size v4 (rs.eraseIdx n)) := by
        refine ⟨?_, ((HO2.out.reps.sub (List.eraseIdx_sublist _ _)).below hb4 (Nat.le_refl _)), by rw [HEL.out]; omega⟩
        rw [HEL.out, ← HER.out, flatG_append]
        have e : n + 0 = ls.length - 1 := by have := HLN.out; omega
        rw [← e]
        exact grow_mono (by simpa [HD0.out, flatG_nil] using hown4) hz12
      have HR4 := ghid (HR2.out.below hb4 HR2.out.lt)
      have HB4 := ghid (HB2.out.trans (hb4.mono (by omega)))
      obtain ⟨s0, s1, s2, sf⟩ := HR4.out.cells
      have hs : w.heap.size < w4.heap.size := HR4.out.lt
      obtain ⟨v4o, v4c, hv4⟩ := grow_shape HF.out.row
      subst hv4
      obtain ⟨nn, hnn⟩ : ∃ nn, nn = (rs.eraseIdx n).length := ⟨_, rfl⟩
      rw [← hnn] at HF ⊢
      clear hown4 hg4 hb4 hb3 r0 r1 r2 rf hnn hi hz0 hz1 hz2
      go_wp2
      refine bodyPost_ret (v := .tuple #[.slice v4o nn v4c, .agg #[.int .i64 0, .int .i64 0, .string ⟨#[]⟩], .int .i64 0]) (by simp [results, Try.results10, go_sem, s0, s1, s2]) rfl ⟨_, rfl, ?_, ?_⟩
      · have t := HF.out.out3 hq1 (.int .i64 0) (.int .i64 0) (.string ⟨#[]⟩)
        rw [HM.out] at t
        exact t
      · exact gbelow3 HB4.out (Nat.le_refl _) _ _ _
    · have hgn2 : ¬ gc = n + 1 := hgn
      go_wp2_with (at_builtin; refine gappend_fresh rfl _ (.tmp 31) 22 rfl 51 i0 _ 5 56 Try.underlying22 hi hz0 hz1 hz2 rfl (by decide) rfl (some ⟨g, 0, none⟩) n gc (flatG sessCells (rs.take n)) rfl (by intro h; cases h) HL1.out (by intro a ha j u hj; simp only [Option.some.injEq] at ha; subst ha; rw [gadd, Nat.zero_add]; exact HC1.out j u hj) H1.out (by unfold maxLen; omega) (by omega) ?_)
      intro v3 w3 hown3 hgrow3
      have hb3 : Below w2.heap.size w2 w3 := (Below.refl _ _).grown hgrow3 (Nat.le_refl _) (fun c hc => by cases hc)
      have hz23 : w2.heap.size ≤ w3.heap.size := hb3.size
      have HO3 := ghid hown3
      obtain ⟨vo, vc, rfl⟩ := grow_shape hown3
      clear hown3 hgrow3
      go_wp2_with (at_builtin; refine wpList_append_own _ rfl (.tmp 33) (.tmp 37) 22 rfl w2.heap.size 51 i0 _ 5 56 Try.underlying22 hi hz0 hz1 hz2 rfl (by decide) (.slice vo n vc) n (flatG sessCells (rs.take n)) rfl HO3.out ⟨g, (n + 1) * 5, none⟩ (ls.length - (n + 1)) (gc - (n + 1)) (flatG sessCells (rs.drop (n + 1))) (by simp [Act.eval]) HL2.out (by intro j u hj; rw [gadd]; exact (hb3.cell (p := ⟨g, (n + 1) * 5 + j, none⟩) hgl).trans (HC2.out j u hj)) H2.out (by unfold maxLen; omega) (by omega) (by omega) ?_)
      intro v4 w4 hown4 hg4 _
      have hb4 : Below w2.heap.size w2 w4 := hb3.grown hg4 hz23 (fun c hc => (HO3.out.lt c hc).1)
      have HF : Hid (OwnS w4 w1.heap.size v4 (rs.eraseIdx n)) := by
        refine ⟨?_, ((HO2.out.reps.sub (List.eraseIdx_sublist _ _)).below hb4 (Nat.le_refl _)), by rw [HEL.out]; omega⟩
        rw [HEL.out, ← HER.out, flatG_append]
        have e : n + (ls.length - (n + 1)) = ls.length - 1 := by omega
        rw [← e]
        exact grow_mono (hown4) hz12
      have HR4 := ghid (HR2.out.below hb4 HR2.out.lt)
      have HB4 := ghid (HB2.out.trans (hb4.mono (by omega)))
      obtain ⟨s0, s1, s2, sf⟩ := HR4.out.cells
      have hs : w.heap.size < w4.heap.size := HR4.out.lt
      obtain ⟨v4o, v4c, hv4⟩ := grow_shape HF.out.row
      subst hv4
      obtain ⟨nn, hnn⟩ : ∃ nn, nn = (rs.eraseIdx n).length := ⟨_, rfl⟩
      rw [← hnn] at HF ⊢
      clear hown4 hg4 hb4 hb3 r0 r1 r2 rf hnn hi hz0 hz1 hz2
      go_wp2
      refine bodyPost_ret (v := .tuple #[.slice v4o nn v4c, .agg #[.int .i64 0, .int .i64 0, .string ⟨#[]⟩], .int .i64 0]) (by simp [results, Try.results10, go_sem, s0, s1, s2]) rfl ⟨_, rfl, ?_, ?_⟩
      · have t := HF.out.out3 hq1 (.int .i64 0) (.int .i64 0) (.string ⟨#[]⟩)
        rw [HM.out] at t
        exact t
      · exact gbelow3 HB4.out (Nat.le_refl _) _ _ _
  | false =>
    rw [leaveS_away ht]
    have CP := ghid (fun u w' hu => sessionAt_none u ls c w' w'.heap.size hu (fun j y hy => thereS_none HGD.out.order ht hy))
    simp only
    clear ht hr
    go_enter Try.func10, Try.ntmps10
    go_wp2_with fail
    refine CR.mono ?_
    rintro e w1 ⟨rfl, hb1⟩
    have HR1 := ghid ((GReply.new w).below hb1 (by simp))
    have HB1 := ghid (hb0.trans (hb1.mono (by simp)))
    clear hb1 hb0 CR
    go_wp2_with fail
    refine (sessionsCopy_any _ ls w1 B (HV.out.below HB1.out hB) (by have := HB1.out.size; omega)).mono ?_
    rintro e w2 ⟨v2, rs, rfl, hrs, hown2, hb2⟩
    have HR2 := ghid (HR1.out.below hb2 HR1.out.lt)
    have HB2 := ghid (HB1.out.trans (hb2.mono HB1.out.size))
    have HRS := ghid hrs
    have HO2 := ghid hown2
    have hrd := hown2.reads (Nat.le_refl _)
    rw [hrs] at hrd
    have hz12 : w1.heap.size ≤ w2.heap.size := hb2.size
    clear hb2 hown2 hrs
    go_wp2_with fail
    refine (CP.out _ _ hrd).mono ?_
    rintro e w9 ⟨rfl, hw⟩
    subst w9
    obtain ⟨r0, r1, r2, rf⟩ := HR2.out.cells
    have hq : w.heap.size < w2.heap.size := HR2.out.lt
    have hq1 : w.heap.size < w1.heap.size := HR1.out.lt
    clear hrd CP
    have hrl : rs.length = ls.length := by rw [← HRS.out, List.length_map]
    obtain ⟨g, gc, rfl⟩ := grow_shape HO2.out.row
    rw [hrl] at HO2 ⊢
    clear hrl
    go_wp2
    refine bodyPost_ret (v := .tuple #[.slice g ls.length gc, .agg #[.int .i64 11, .int .i64 0, .string ⟨#[]⟩], .int .i64 0]) (by simp [results, Try.results10, go_sem, r0, r1, r2]) rfl ⟨_, rfl, ?_, ?_⟩
    · have t := HO2.out.out3 hq1 (.int .i64 11) (.int .i64 0) (.string ⟨#[]⟩)
      rw [HRS.out] at t
      exact t
    · exact gbelow3 HB2.out (Nat.le_refl _) _ _ _
end Go.Proofs.Ytmcdbdcabiccnaf
