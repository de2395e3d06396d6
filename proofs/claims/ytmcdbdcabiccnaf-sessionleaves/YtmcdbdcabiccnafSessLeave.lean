/- session.Leave. (Written by gen_leave.py.) -/
import Derived.Test.YtmcdbdcabiccnafSessForm
import Derived.Test.YtmcdbdcabiccnafSessCopy
import Derived.Test.YtmcdbdcabiccnafSessPlace
import Derived.Test.YtmcdbdcabiccnafSessDel
import Derived.Test.YtmcdbdcabiccnafSessReply
import Derived.Test.YtmcdbdcabiccnafSessLeaveMath
namespace Go.Proofs.Ytmcdbdcabiccnaf
open Go.RowKit

set_option maxRecDepth 100000 in
set_option maxHeartbeats 1600000 in
theorem Leave_bad (v : Value) (ls : List SessD) (i c : Int) (w : World) (B : Nat) (hv : SessR w B v ls) (hB : B ≤ w.heap.size) (hr : checkS ls i ≠ 0) :
    Calls Try.prog 9 #[v, .int .i64 i, .int .i64 c] w fun e w' => e = .returned (.tuple #[.slice none 0 0, .agg #[.int .i64 0, .int .i64 0, .string ⟨#[]⟩], .int .i64 (checkS ls i)]) ∧ Below w.heap.size w w' := by
  have hb0 : Below w.heap.size w (w.alloc (.cells #[.int .i64 0, .int .i64 0, .string ⟨#[]⟩] 26)) := (Below.refl _ _).alloc (Nat.le_refl _) _
  have CR := sessCheck_any v ls i _ B (hv.below hb0 hB) (by simp; omega)
  obtain ⟨ao, cap, rfl, -⟩ := hv
  obtain ⟨ec, hec⟩ : ∃ ec, ec = checkS ls i := ⟨_, rfl⟩
  rw [← hec] at CR hr ⊢
  have hr2 : (ec == 0) = false := by simpa using hr
  clear hec
  go_enter Try.func9, Try.ntmps9
  go_wp2_with fail
  refine CR.mono ?_
  rintro e w1 ⟨rfl, hb1⟩
  have HR1 := ghid ((GReply.new w).below hb1 (by simp))
  have HB1 := ghid (hb0.trans (hb1.mono (by simp)))
  clear hb1 hb0 CR
  obtain ⟨r0, r1, r2, rf⟩ := HR1.out.cells
  have hq : w.heap.size < w1.heap.size := HR1.out.lt
  go_wp2
  refine bodyPost_ret (v := .tuple #[.slice none 0 0, .agg #[.int .i64 0, .int .i64 0, .string ⟨#[]⟩], .int .i64 ec]) (by simp [results, Try.results9, go_sem, r0, r1, r2]) rfl ?_
  exact ⟨rfl, gbelow3 HB1.out (Nat.le_refl _) _ _ _⟩

set_option maxRecDepth 100000 in
set_option maxHeartbeats 3200000 in
theorem Leave_ok (v : Value) (ls : List SessD) (i c : Int) (w : World) (B : Nat) (hv : SessR w B v ls) (hB : B ≤ w.heap.size) (hr : checkS ls i = 0) :
    Calls Try.prog 9 #[v, .int .i64 i, .int .i64 c] w fun e w' => ∃ v', e = .returned (.tuple #[v', .agg #[.int .i64 (leaveS ls c).2.code, .int .i64 (leaveS ls c).2.n, .string (leaveS ls c).2.text], .int .i64 0]) ∧ SessR w' w'.heap.size v' (leaveS ls c).1 ∧ Below w.heap.size w w' := by
  have hb0 : Below w.heap.size w (w.alloc (.cells #[.int .i64 0, .int .i64 0, .string ⟨#[]⟩] 26)) := (Below.refl _ _).alloc (Nat.le_refl _) _
  have CR := sessCheck_any v ls i _ B (hv.below hb0 hB) (by simp; omega)
  have HGD := ghid (checkS_zero hr)
  have hl4 := HGD.out.len
  rw [hr] at CR
  have HV := ghid hv
  have CP := ghid (fun u w' hu => splace_any u ls c w' w'.heap.size hu (Nat.le_refl _))
  have hin := placeS_le ls c
  obtain ⟨ao, cap, rfl, -⟩ := hv
  cases ht : thereS ls c with
  | true =>
    obtain ⟨x, hx, -⟩ := thereS_some ht
    rw [leaveS_there ht]
    rw [ht] at CP
    have hlt : placeS ls c < ls.length := (List.getElem?_eq_some_iff.1 hx).1
    obtain ⟨n, hne⟩ : ∃ n, n = placeS ls c := ⟨_, rfl⟩
    rw [← hne] at CP hin hlt ⊢
    simp only
    clear hne ht hr hx
    go_enter Try.func9, Try.ntmps9
    go_wp2_with fail
    refine CR.mono ?_
    rintro e w1 ⟨rfl, hb1⟩
    have HR1 := ghid ((GReply.new w).below hb1 (by simp))
    have HB1 := ghid (hb0.trans (hb1.mono (by simp)))
    clear hb1 hb0 CR
    go_wp2_with fail
    refine (sessCopy_any _ ls w1 B (HV.out.below HB1.out hB) (by have := HB1.out.size; omega)).mono ?_
    rintro e w2 ⟨rfl, rs, hrs, hown2, -, hb2⟩
    have HR2 := ghid (HR1.out.below hb2 HR1.out.lt)
    have HB2 := ghid (HB1.out.trans (hb2.mono HB1.out.size))
    have HRS := ghid hrs
    have HO2 := ghid hown2
    have hrd := hown2.reads (Nat.le_refl _)
    rw [hrs] at hrd
    clear hb2 hown2 hrs
    go_wp2_with fail
    refine (CP.out _ _ hrd).mono ?_
    rintro e w3 ⟨rfl, hb3⟩
    have HR3 := ghid (HR2.out.below hb3 HR2.out.lt)
    have HB3 := ghid (HB2.out.trans (hb3.mono HB2.out.size))
    have HO3 := ghid (HO2.out.below hb3 (Nat.le_refl _))
    obtain ⟨r0, r1, r2, rf⟩ := HR3.out.cells
    have hq : w.heap.size < w3.heap.size := HR3.out.lt
    have hq1 : w.heap.size < w1.heap.size := HR1.out.lt
    have hq2 : w1.heap.size < w3.heap.size := HO3.out.block.2
    have hq3 : w.heap.size ≠ w1.heap.size := by omega
    have hq4 : w1.heap.size ≠ w.heap.size := by omega
    clear hb3 hrd CP HO2
    have CD := deleteS w1.heap.size ls.length n rs w3 w1.heap.size HO3.out hlt (by omega)
    go_wp2_with fail
    refine CD.mono ?_
    rintro e w4 ⟨rfl, hown4, hT4⟩
    have HO4 := ghid hown4
    have HR4 := ghid (HR3.out.touch hT4 (by omega))
    have HB4 := ghid (HB3.out.trans (hT4.below (by omega) (fun k hk => by omega)))
    obtain ⟨s0, s1, s2, sf⟩ := HR4.out.cells
    have hs : w.heap.size < w4.heap.size := HR4.out.lt
    have HM := ghid (map_erase (n := n) HRS.out)
    clear hown4 hT4 CD r0 r1 r2 rf
    go_wp2
    refine bodyPost_ret (v := .tuple #[.slice (some ⟨w1.heap.size, 0, none⟩) (ls.length - 1) ls.length, .agg #[.int .i64 0, .int .i64 0, .string ⟨#[]⟩], .int .i64 0]) (by simp [results, Try.results9, go_sem, s0, s1, s2]) rfl ⟨_, rfl, ?_, ?_⟩
    · have t := HO4.out.out3 hq1 (.int .i64 0) (.int .i64 0) (.string ⟨#[]⟩)
      rw [HM.out] at t
      exact t
    · exact gbelow3 HB4.out (Nat.le_refl _) _ _ _
  | false =>
    rw [leaveS_away ht]
    rw [ht] at CP
    obtain ⟨n, hne⟩ : ∃ n, n = placeS ls c := ⟨_, rfl⟩
    rw [← hne] at CP hin
    simp only
    clear hne ht hr
    go_enter Try.func9, Try.ntmps9
    go_wp2_with fail
    refine CR.mono ?_
    rintro e w1 ⟨rfl, hb1⟩
    have HR1 := ghid ((GReply.new w).below hb1 (by simp))
    have HB1 := ghid (hb0.trans (hb1.mono (by simp)))
    clear hb1 hb0 CR
    go_wp2_with fail
    refine (sessCopy_any _ ls w1 B (HV.out.below HB1.out hB) (by have := HB1.out.size; omega)).mono ?_
    rintro e w2 ⟨rfl, rs, hrs, hown2, -, hb2⟩
    have HR2 := ghid (HR1.out.below hb2 HR1.out.lt)
    have HB2 := ghid (HB1.out.trans (hb2.mono HB1.out.size))
    have HRS := ghid hrs
    have HO2 := ghid hown2
    have hrd := hown2.reads (Nat.le_refl _)
    rw [hrs] at hrd
    clear hb2 hown2 hrs
    go_wp2_with fail
    refine (CP.out _ _ hrd).mono ?_
    rintro e w3 ⟨rfl, hb3⟩
    have HR3 := ghid (HR2.out.below hb3 HR2.out.lt)
    have HB3 := ghid (HB2.out.trans (hb3.mono HB2.out.size))
    have HO3 := ghid (HO2.out.below hb3 (Nat.le_refl _))
    obtain ⟨r0, r1, r2, rf⟩ := HR3.out.cells
    have hq : w.heap.size < w3.heap.size := HR3.out.lt
    have hq1 : w.heap.size < w1.heap.size := HR1.out.lt
    have hq2 : w1.heap.size < w3.heap.size := HO3.out.block.2
    have hq3 : w.heap.size ≠ w1.heap.size := by omega
    have hq4 : w1.heap.size ≠ w.heap.size := by omega
    clear hb3 hrd CP HO2
    go_wp2
    refine bodyPost_ret (v := .tuple #[.slice (some ⟨w1.heap.size, 0, none⟩) ls.length ls.length, .agg #[.int .i64 11, .int .i64 0, .string ⟨#[]⟩], .int .i64 0]) (by simp [results, Try.results9, go_sem, r0, r1, r2]) rfl ⟨_, rfl, ?_, ?_⟩
    · have t := HO3.out.out3 hq1 (.int .i64 11) (.int .i64 0) (.string ⟨#[]⟩)
      rw [HRS.out] at t
      exact t
    · exact gbelow3 HB3.out (Nat.le_refl _) _ _ _
end Go.Proofs.Ytmcdbdcabiccnaf
