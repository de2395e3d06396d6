/- session.Join. (Written by gen_join.py.) (joined by program) -/
import Derived.RegionTactic
import Derived.Deep.AppendLies
import Derived.BigRegion
import Derived.Test.YtijilhbdbeajjaaGreatDoorTT02
import Derived.Test.YtijilhbdbeajjaaGreatDoorTT18
import Derived.Test.YtijilhbdbeajjaaGreatDoorTT27
import Derived.Test.YtijilhbdbeajjaaGreatDoorTT22
import Derived.Test.YtijilhbdbeajjaaGreatDoorTT09
namespace Go.Proofs.YtijilhbdbeajjaaGreatDoor

open Go.RowKit

set_option maxRecDepth 100000 in
set_option maxHeartbeats 3200000 in
theorem Join_ok (v : Value) (ls : List SessD) (i c : Int) (w : World) (B : Nat) (hv : SessR w B v ls) (hB : B ≤ w.heap.size) (hr : joinE ls i c = 0) :
    Calls Tryz.prog 139 #[v, .int .i64 i, .int .i64 c] w fun e w' => ∃ v', e = .returned (.tuple #[v', .agg #[.int .i64 (joinS ls i c).2.code, .int .i64 (joinS ls i c).2.n, .string (joinS ls i c).2.text], .int .i64 0]) ∧ SessR w' w'.heap.size v' (joinS ls i c).1 ∧ Below w.heap.size w w' := by
  have hb0 : Below w.heap.size w (w.alloc (.cells #[.int .i64 0, .int .i64 0, .string ⟨#[]⟩] 73)) := (Below.refl _ _).alloc (Nat.le_refl _) _
  have CR := sessCheck_any v ls i _ B (hv.below hb0 hB) (by simp; omega)
  obtain ⟨h1, h3, h2⟩ := joinE_zero hr
  have HGD := ghid (checkS_zero h1)
  have hi0 := HGD.out.low
  have hi1 := HGD.out.high
  have hl4 := HGD.out.len
  rw [h1] at CR
  have HV := ghid hv
  have CP := ghid (fun u w' hu => splace_any u ls c w' w'.heap.size hu (Nat.le_refl _))
  have hin := placeS_le ls c
  have hine : (i == 1073741824) = false := by simpa using h2
  obtain ⟨ao, cap, rfl, -⟩ := hv
  cases ht : thereS ls c with
  | true =>
    obtain ⟨x, hx, -⟩ := thereS_some ht
    rw [joinS_there ht hx]
    rw [ht] at CP
    have hlt : placeS ls c < ls.length := (List.getElem?_eq_some_iff.1 hx).1
    obtain ⟨n, hne⟩ : ∃ n, n = placeS ls c := ⟨_, rfl⟩
    rw [← hne] at CP hx hin hlt ⊢
    have HX := ghid hx
    obtain ⟨xc, xi, xa, xt, xk⟩ := x
    simp only
    clear hne ht hr h1 hx h2
    go_enter Tryz.func139, Tryz.ntmps139
    go_wp2_with fail
    refine CR.mono ?_
    rintro e w1 ⟨rfl, hb1⟩
    have HR1 := ghid ((GReply.new w).below hb1 (by simp))
    have HB1 := ghid (hb0.trans (hb1.mono (by simp)))
    clear hb1 hb0 CR
    go_wp2_with fail
    refine (sclient_yes c _ h3.1 h3.2).mono ?_
    rintro e w9 ⟨rfl, hw⟩
    subst w9
    go_wp2_with fail
    refine (sessCopy_any _ ls w1 B (HV.out.below HB1.out hB) (by have := HB1.out.size; omega)).mono ?_
    rintro e w2 ⟨rfl, rs, hrs, hown2, -, hb2⟩
    have HR2 := ghid (HR1.out.below hb2 HR1.out.lt)
    have HB2 := ghid (HB1.out.trans (hb2.mono HB1.out.size))
    have HRS := ghid hrs
    have HO2 := ghid hown2
    have hrd := hown2.reads (Nat.le_refl _)
    rw [hrs] at hrd
    clear hb2 hown2 hrs
    go_wp2_with fail
    refine (CP.out _ _ hrd).mono ?_
    rintro e w3 ⟨rfl, hb3⟩
    have HR3 := ghid (HR2.out.below hb3 HR2.out.lt)
    have HB3 := ghid (HB2.out.trans (hb3.mono HB2.out.size))
    have HO3 := ghid (HO2.out.below hb3 (Nat.le_refl _))
    obtain ⟨r0, r1, r2, rf⟩ := HR3.out.cells
    have hq : w.heap.size < w3.heap.size := HR3.out.lt
    have hq1 : w.heap.size < w1.heap.size := HR1.out.lt
    have hq2 : w1.heap.size < w3.heap.size := HO3.out.block.2
    have hq3 : w.heap.size ≠ w1.heap.size := by omega
    have hq4 : w1.heap.size ≠ w.heap.size := by omega
    clear hb3 hrd CP HO2
    obtain ⟨xv, hrn⟩ := map_at HRS.out HX.out
    obtain ⟨d0, d1, d2, d3, d4⟩ := HO3.out.cells hrn
    have df := HO3.out.frozenAt
    simp only at d0 d1 d2 d3 d4
    have HN := ghid (HO3.out.setLast hrn (i + 1))
    have HM : Hid ((rs.set n (({ (⟨xc, xi, xa, xt, xk⟩ : SessD) with last := i + 1 }, xv) : SessD × Value)).map (·.1) = ls.set n ⟨xc, xi, xa, i + 1, xk⟩) := by
      unfold Hid
      rw [List.map_set, HRS.out]
    clear HO3 hrn
    go_wp2_with fail
    go_region
    all_goals
      go_wp2
      refine bodyPost_ret (v := .tuple #[.slice (some ⟨w1.heap.size, 0, none⟩) ls.length ls.length, .agg #[.int .i64 7, .int .i64 xi, .string ⟨#[]⟩], .int .i64 0]) (by simp [results, Tryz.results139, go_sem, r0, r1, r2]) rfl ⟨_, rfl, ?_, ?_⟩
      · have t := HN.out.out3 hq1 (.int .i64 7) (.int .i64 xi) (.string ⟨#[]⟩)
        rw [HM.out] at t
        exact (t.below (Below.refl _ _).drew (Nat.le_refl _)).mono (by simp [World.setCell])
      · exact (gbelow3 (HB3.out.setCell (by show w.heap.size ≤ w1.heap.size; omega) _) (Nat.le_refl _) _ _ _).drew
  | false =>
    rw [ht] at CP
    by_cases hf : ls.length = 4
    · rw [joinS_full ht hf]
      obtain ⟨n, hne⟩ : ∃ n, n = placeS ls c := ⟨_, rfl⟩
      rw [← hne] at CP hin
      simp only
      have hf2 : ((ls.length : Int) == 4) = true := by simpa using (show (ls.length : Int) = 4 by omega)
      clear hne ht hr h1 h2 hf
      go_enter Tryz.func139, Tryz.ntmps139
      go_wp2_with fail
      refine CR.mono ?_
      rintro e w1 ⟨rfl, hb1⟩
      have HR1 := ghid ((GReply.new w).below hb1 (by simp))
      have HB1 := ghid (hb0.trans (hb1.mono (by simp)))
      clear hb1 hb0 CR
      go_wp2_with fail
      refine (sclient_yes c _ h3.1 h3.2).mono ?_
      rintro e w9 ⟨rfl, hw⟩
      subst w9
      go_wp2_with fail
      refine (sessCopy_any _ ls w1 B (HV.out.below HB1.out hB) (by have := HB1.out.size; omega)).mono ?_
      rintro e w2 ⟨rfl, rs, hrs, hown2, -, hb2⟩
      have HR2 := ghid (HR1.out.below hb2 HR1.out.lt)
      have HB2 := ghid (HB1.out.trans (hb2.mono HB1.out.size))
      have HRS := ghid hrs
      have HO2 := ghid hown2
      have hrd := hown2.reads (Nat.le_refl _)
      rw [hrs] at hrd
      clear hb2 hown2 hrs
      go_wp2_with fail
      refine (CP.out _ _ hrd).mono ?_
      rintro e w3 ⟨rfl, hb3⟩
      have HR3 := ghid (HR2.out.below hb3 HR2.out.lt)
      have HB3 := ghid (HB2.out.trans (hb3.mono HB2.out.size))
      have HO3 := ghid (HO2.out.below hb3 (Nat.le_refl _))
      obtain ⟨r0, r1, r2, rf⟩ := HR3.out.cells
      have hq : w.heap.size < w3.heap.size := HR3.out.lt
      have hq1 : w.heap.size < w1.heap.size := HR1.out.lt
      have hq2 : w1.heap.size < w3.heap.size := HO3.out.block.2
      have hq3 : w.heap.size ≠ w1.heap.size := by omega
      have hq4 : w1.heap.size ≠ w.heap.size := by omega
      clear hb3 hrd CP HO2
      go_wp2
      refine bodyPost_ret (v := .tuple #[.slice (some ⟨w1.heap.size, 0, none⟩) ls.length ls.length, .agg #[.int .i64 8, .int .i64 0, .string ⟨#[]⟩], .int .i64 0]) (by simp [results, Tryz.results139, go_sem, r0, r1, r2]) rfl ⟨_, rfl, ?_, ?_⟩
      · have := HO3.out.out3 hq1 (.int .i64 8) (.int .i64 0) (.string ⟨#[]⟩)
        rw [HRS.out] at this
        exact this
      · exact gbelow3 HB3.out (Nat.le_refl _) _ _ _
    · rw [joinS_new ht hf]
      obtain ⟨n, hne⟩ : ∃ n, n = placeS ls c := ⟨_, rfl⟩
      rw [← hne] at CP hin ⊢
      simp only
      have hf2 : ((ls.length : Int) == 4) = false := by simpa using (show ¬ (ls.length : Int) = 4 by omega)
      clear hne ht hr h1 h2
      go_enter Tryz.func139, Tryz.ntmps139
      go_wp2_with fail
      refine CR.mono ?_
      rintro e w1 ⟨rfl, hb1⟩
      have HR1 := ghid ((GReply.new w).below hb1 (by simp))
      have HB1 := ghid (hb0.trans (hb1.mono (by simp)))
      clear hb1 hb0 CR
      go_wp2_with fail
      refine (sclient_yes c _ h3.1 h3.2).mono ?_
      rintro e w9 ⟨rfl, hw⟩
      subst w9
      go_wp2_with fail
      refine (sessCopy_any _ ls w1 B (HV.out.below HB1.out hB) (by have := HB1.out.size; omega)).mono ?_
      rintro e w2 ⟨rfl, rs, hrs, hown2, -, hb2⟩
      have HR2 := ghid (HR1.out.below hb2 HR1.out.lt)
      have HB2 := ghid (HB1.out.trans (hb2.mono HB1.out.size))
      have HRS := ghid hrs
      have HO2 := ghid hown2
      have hrd := hown2.reads (Nat.le_refl _)
      rw [hrs] at hrd
      clear hb2 hown2 hrs
      go_wp2_with fail
      refine (CP.out _ _ hrd).mono ?_
      rintro e w3 ⟨rfl, hb3⟩
      have HR3 := ghid (HR2.out.below hb3 HR2.out.lt)
      have HB3 := ghid (HB2.out.trans (hb3.mono HB2.out.size))
      have HO3 := ghid (HO2.out.below hb3 (Nat.le_refl _))
      obtain ⟨r0, r1, r2, rf⟩ := HR3.out.cells
      have hq : w.heap.size < w3.heap.size := HR3.out.lt
      have hq1 : w.heap.size < w1.heap.size := HR1.out.lt
      have hq2 : w1.heap.size < w3.heap.size := HO3.out.block.2
      have hq3 : w.heap.size ≠ w1.heap.size := by omega
      have hq4 : w1.heap.size ≠ w.heap.size := by omega
      clear hb3 hrd CP HO2
      have hba : Below w3.heap.size w3 (w3.alloc (.cells #[.int .i64 c, .int .i64 (i + 1), .int .i64 0, .int .i64 (i + 1), .slice none 0 0] 121)) := (Below.refl _ _).alloc (Nat.le_refl _) _
      have HBA := ghid hba
      have HC := ghid (sinsert_at w1.heap.size ls.length n rs ⟨c, i + 1, 0, i + 1, []⟩ w3.heap.size _ w1.heap.size (HO3.out.below hba (Nat.le_refl _)) (by omega) hin rfl (by
        intro j u hj
        have := World.news_of_block (heap_alloc_new w3 (.cells #[.int .i64 c, .int .i64 (i + 1), .int .i64 0, .int .i64 (i + 1), .slice none 0 0] 121)) j u hj
        rwa [gadd, Nat.zero_add] at this) (by simp) (by simp; omega))
      clear hba
      go_wp2_with fail
      refine HC.out.mono ?_
      rintro e w4 ⟨v4, rfl, hown4, hb4⟩
      have HB34 := ghid (HBA.out.trans (hb4.mono (by simp)))
      have HR4 := ghid (HR3.out.below HB34.out HR3.out.lt)
      have HB4 := ghid (HB3.out.trans (HB34.out.mono (by omega)))
      have HO4 := ghid hown4
      obtain ⟨vo, vc, rfl⟩ := grow_shape hown4.row
      obtain ⟨s0, s1, s2, sf⟩ := HR4.out.cells
      have hs : w.heap.size < w4.heap.size := HR4.out.lt
      have HM : Hid ((rs.take n ++ ((⟨c, i + 1, 0, i + 1, []⟩ : SessD), Value.slice none 0 0) :: rs.drop n).map (·.1) = ls.take n ++ ⟨c, i + 1, 0, i + 1, []⟩ :: ls.drop n) := by
        unfold Hid
        rw [List.map_append, List.map_cons, List.map_take, List.map_drop, HRS.out]
      obtain ⟨nn, hnn⟩ : ∃ nn, nn = (rs.take n ++ ((⟨c, i + 1, 0, i + 1, []⟩ : SessD), Value.slice none 0 0) :: rs.drop n).length := ⟨_, rfl⟩
      rw [← hnn] at HO4 ⊢
      clear hown4 hb4 HC r0 r1 r2 rf hnn
      go_wp2
      refine bodyPost_ret (v := .tuple #[.slice vo nn vc, .agg #[.int .i64 0, .int .i64 (i + 1), .string ⟨#[]⟩], .int .i64 0]) (by simp [results, Tryz.results139, go_sem, s0, s1, s2]) rfl ⟨_, rfl, ?_, ?_⟩
      · have := HO4.out.out3 hq1 (.int .i64 0) (.int .i64 (i + 1)) (.string ⟨#[]⟩)
        rw [HM.out] at this
        exact this
      · exact gbelow3 HB4.out (Nat.le_refl _) _ _ _

end Go.Proofs.YtijilhbdbeajjaaGreatDoor
