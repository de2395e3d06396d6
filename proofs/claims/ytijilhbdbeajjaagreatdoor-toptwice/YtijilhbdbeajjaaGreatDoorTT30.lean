/- slices.Delete of one session out of a row of the call's own; session.Leave. (Written by gen_leave.py.) (joined by program) -/
import Derived.Test.YtijilhbdbeajjaaGreatDoorTT19
import Derived.Test.YtijilhbdbeajjaaGreatDoorTT27
import Derived.Test.YtijilhbdbeajjaaGreatDoorTT18
import Derived.Test.YtijilhbdbeajjaaGreatDoorTT02
import Derived.Test.YtijilhbdbeajjaaGreatDoorTT22
import Derived.Test.YtijilhbdbeajjaaGreatDoorTT09
namespace Go.Proofs.YtijilhbdbeajjaaGreatDoor

open Go.RowKit

set_option maxRecDepth 100000 in
set_option maxHeartbeats 3200000 in
theorem deleteS (g n i : Nat) (rs : List (SessD × Value)) (w : World) (base : Nat) (h : OwnS w base (.slice (some ⟨g, 0, none⟩) n n) rs) (hin : i < n) (h5 : n < 5) :
    Calls Tryz.prog 181 #[.slice (some ⟨g, 0, none⟩) n n, .int .i64 i, .int .i64 ((i : Int) + 1)] w fun e w' => e = .returned (.slice (some ⟨g, 0, none⟩) (n - 1) n) ∧ OwnS w' base (.slice (some ⟨g, 0, none⟩) (n - 1) n) (rs.eraseIdx i) ∧ TouchG w w' (fun b => b = g) := by
  have hn := h.len_eq
  have hgb := h.block
  have HO := ghid h
  obtain ⟨i0, hi, hz0, hz1, hz2⟩ := info_parts Tryz.infoSess
  have hrow := h.row
  rw [← hn] at hrow
  have htk := grow_take hrow (by omega : i ≤ n)
  rw [flatG_take sessCells_len] at htk
  have HTK := ghid htk
  have HL2 : Hid ((flatG sessCells (rs.drop (i + 1))).length = (n - (i + 1)) * 5) := by unfold Hid; rw [flatG_length sessCells_len, List.length_drop, hn]
  have HONE : Hid (∀ v ∈ flatG sessCells (rs.drop (i + 1)), v.oneCell' = true) := fun v hv => by
    obtain ⟨r, hr, hv⟩ := List.mem_flatMap.1 hv
    exact sessCells_one r (gslice_one (h.reps.each r (List.mem_of_mem_drop hr)).row) v hv
  have HNEW : Hid (∀ j u, (flatG sessCells (rs.drop (i + 1)))[j]? = some u → w.cell? ⟨g, (i + 1) * 5 + j, none⟩ = some u) := by
    intro j u hj
    have hjl := (List.getElem?_eq_some_iff.1 hj).1
    rw [HL2.out] at hjl
    rw [hrow.cellAt ((i + 1) * 5 + j) (by have : (i + 1) * 5 + (n - (i + 1)) * 5 = n * 5 := by rw [← Nat.add_mul]; congr 1; omega
                                          omega)]
    rw [← flatG_drop sessCells_len rs (i + 1) (by omega), List.getElem?_drop] at hj
    exact hj
  have HER : Hid (rs.take i ++ rs.drop (i + 1) = rs.eraseIdx i) := by unfold Hid; rw [List.eraseIdx_eq_take_drop_succ]
  have HEL : Hid ((rs.eraseIdx i).length = n - 1) := by unfold Hid; rw [List.length_eraseIdx, if_pos (by omega), hn]
  have hq1 : (0 : Int) ≤ (i : Int) + 1 := by omega
  have hq2 : (i : Int) + 1 ≤ n := by omega
  have hq3 : ((i : Int) == (i : Int) + 1) = false := by simpa using (show ¬ (i : Int) = (i : Int) + 1 by omega)
  have hto : ((i : Int) + 1).toNat = i + 1 := by omega
  have HN := ghid hn
  clear h hrow htk hn
  by_cases hl : i + 1 = n
  · subst hl
    have hni : ¬ i + 1 = i := by omega
    have hq4 : (i : Int) ≤ (i : Int) + 1 := by omega
    have hq5 : i ≤ i + 1 := by omega
    have HD0 : Hid (rs.drop (i + 1) = []) := by unfold Hid; exact List.drop_of_length_le (by rw [← HN.out]; exact Nat.le_refl _)
    go_enter Tryz.func181, Tryz.ntmps181
    go_wp2_with fail
    go_region_law (refine gstep_append_room rfl (.tmp 22) (.tmp 25) 46 rfl base 121 i0 5 Tryz.underlying46 hi hz1 g i (i + 1) (flatG sessCells (rs.take i)) (by simp [Act.eval, Act.put]) HTK.out ⟨g, 0, none⟩ 0 0 [] (by simp [Act.eval, Act.put]) rfl (by intro j u hj; simp at hj) (by intro u hu; simp at hu) (by omega) ?_; intro w1 hown1 hg1)
    have hb1 : w1.heap.size ≥ w.heap.size := hg1.size
    obtain ⟨cur, hcur, hcs⟩ : ∃ cur, w1.heap[g]? = some (.cells cur 121 (0, 0)) ∧ cur.size = (i + 1) * 5 := by
      rcases hown1.2 with ⟨h', _⟩ | ⟨g', cap', cur', h', _, hh, _, _, hcs', _⟩
      · cases h'
      · simp only [Value.slice.injEq, Option.some.injEq, Addr.mk.injEq, and_true, true_and] at h'
        obtain ⟨rfl, rfl⟩ := h'
        exact ⟨cur', hh, hcs'⟩
    obtain ⟨zs, hzl, hcl⟩ := run_clear_wide (P := Tryz.prog) w1 46 121 i0 _ Tryz.underlying46 hi hz0 sess_zero_one (by simp [Value.cells]) g ((i) * 5) 1 1 cur _ (by omega) hcur (by simp [Value.cells]; omega)
    obtain ⟨Wf, hWf⟩ : ∃ Wf, Wf = w1.setRow g (cur.toList.take ((i) * 5) ++ zs ++ cur.toList.drop ((i) * 5 + zs.length)).toArray := ⟨_, rfl⟩
    rw [← hWf] at hcl
    have hT1 : TouchG w w1 (fun b => b = g) := ⟨hg1.os, hg1.tape, hg1.output, hg1.size, fun k hk hs => hg1.block k hk (fun e => hs (by simpa using e))⟩
    have HT : Hid (TouchG w Wf (fun b => b = g)) := by unfold Hid; rw [hWf]; exact hT1.setRow (g := g) rfl _
    have HF : Hid (OwnS Wf base (.slice (some ⟨g, 0, none⟩) (i) (i + 1)) (rs.eraseIdx i)) := by
      refine ⟨?_, (HO.out.reps.sub (List.eraseIdx_sublist _ _)).keep fun b hb => ?_, by rw [HEL.out]; omega⟩
      · rw [HEL.out, ← HER.out, flatG_append, hWf]
        exact (by rw [HD0.out, flatG_nil, List.append_nil]; exact grow_behind (by simpa using hown1) hcur (by simp [Value.cells] at hzl; omega))
      · have hbm : b ∈ repBlocks rs := (repBlocks_sub (List.eraseIdx_sublist _ _)).subset hb
        exact HT.out.block b (HO.out.reps.lt hbm).2 (fun e => HO.out.apart hbm (by rw [e]; rfl))
    clear hown1 hg1 hcur hWf hT1 hi hz0 hz1 hz2
    go_wp2
    go_ret
    exact ⟨rfl, HF.out, HT.out⟩
  · obtain ⟨m, rfl⟩ : ∃ m, n = m + 1 := ⟨n - 1, by omega⟩
    have hni : ¬ m + 1 = i := by omega
    have hnj : ¬ m + 1 = i + 1 := by omega
    have hnj2 : ¬ m = i := by omega
    have hq5 : i ≤ m + 1 := by omega
    have hq6 : i + 1 ≤ m + 1 := by omega
    have hq7 : i ≤ m := by omega
    have hq8 : (i : Int) ≤ (m : Int) + 1 := by omega
    have hq9 : (m : Int) ≤ (m : Int) + 1 := by omega
    go_enter Tryz.func181, Tryz.ntmps181
    go_wp2_with fail
    go_region_law (refine gstep_append_room rfl (.tmp 22) (.tmp 25) 46 rfl base 121 i0 5 Tryz.underlying46 hi hz1 g i (m + 1) (flatG sessCells (rs.take i)) (by simp [Act.eval, Act.put]) HTK.out ⟨g, (i + 1) * 5, none⟩ (m + 1 - (i + 1)) (m + 1 - (i + 1)) (flatG sessCells (rs.drop (i + 1))) (by simp [Act.eval, Act.put]) HL2.out (by intro j u hj; rw [gadd]; exact HNEW.out j u hj) HONE.out (by omega) ?_; intro w1 hown1 hg1)
    have hbeh : i + (m + 1 - (i + 1)) = m := by omega
    have hbeh2 : i + (m - i) = m := by omega
    rw [hbeh] at hown1
    try rw [hbeh]
    try rw [hbeh2]
    clear hbeh hbeh2
    have hb1 : w1.heap.size ≥ w.heap.size := hg1.size
    obtain ⟨cur, hcur, hcs⟩ : ∃ cur, w1.heap[g]? = some (.cells cur 121 (0, 0)) ∧ cur.size = (m + 1) * 5 := by
      rcases hown1.2 with ⟨h', _⟩ | ⟨g', cap', cur', h', _, hh, _, _, hcs', _⟩
      · cases h'
      · simp only [Value.slice.injEq, Option.some.injEq, Addr.mk.injEq, and_true, true_and] at h'
        obtain ⟨rfl, rfl⟩ := h'
        exact ⟨cur', hh, hcs'⟩
    obtain ⟨zs, hzl, hcl⟩ := run_clear_wide (P := Tryz.prog) w1 46 121 i0 _ Tryz.underlying46 hi hz0 sess_zero_one (by simp [Value.cells]) g (m * 5) 1 1 cur _ (by omega) hcur (by simp [Value.cells]; omega)
    obtain ⟨Wf, hWf⟩ : ∃ Wf, Wf = w1.setRow g (cur.toList.take (m * 5) ++ zs ++ cur.toList.drop (m * 5 + zs.length)).toArray := ⟨_, rfl⟩
    rw [← hWf] at hcl
    have hT1 : TouchG w w1 (fun b => b = g) := ⟨hg1.os, hg1.tape, hg1.output, hg1.size, fun k hk hs => hg1.block k hk (fun e => hs (by simpa using e))⟩
    have HT : Hid (TouchG w Wf (fun b => b = g)) := by unfold Hid; rw [hWf]; exact hT1.setRow (g := g) rfl _
    have HF : Hid (OwnS Wf base (.slice (some ⟨g, 0, none⟩) m (m + 1)) (rs.eraseIdx i)) := by
      refine ⟨?_, (HO.out.reps.sub (List.eraseIdx_sublist _ _)).keep fun b hb => ?_, by rw [HEL.out]; omega⟩
      · rw [HEL.out, ← HER.out, flatG_append, hWf]
        exact (by have := grow_behind hown1 hcur (zs := zs) (by simp [Value.cells] at hzl; omega); simpa using this)
      · have hbm : b ∈ repBlocks rs := (repBlocks_sub (List.eraseIdx_sublist _ _)).subset hb
        exact HT.out.block b (HO.out.reps.lt hbm).2 (fun e => HO.out.apart hbm (by rw [e]; rfl))
    clear hown1 hg1 hcur hWf hT1 hi hz0 hz1 hz2
    go_wp2
    go_ret
    exact ⟨rfl, HF.out, HT.out⟩

end Go.Proofs.YtijilhbdbeajjaaGreatDoor

namespace Go.Proofs.YtijilhbdbeajjaaGreatDoor

open Go.RowKit

set_option maxRecDepth 100000 in
set_option maxHeartbeats 3200000 in
theorem Leave_ok (v : Value) (ls : List SessD) (i c : Int) (w : World) (B : Nat) (hv : SessR w B v ls) (hB : B ≤ w.heap.size) (hr : checkS ls i = 0) :
    Calls Tryz.prog 140 #[v, .int .i64 i, .int .i64 c] w fun e w' => ∃ v', e = .returned (.tuple #[v', .agg #[.int .i64 (leaveS ls c).2.code, .int .i64 (leaveS ls c).2.n, .string (leaveS ls c).2.text], .int .i64 0]) ∧ SessR w' w'.heap.size v' (leaveS ls c).1 ∧ Below w.heap.size w w' := by
  have hb0 : Below w.heap.size w (w.alloc (.cells #[.int .i64 0, .int .i64 0, .string ⟨#[]⟩] 73)) := (Below.refl _ _).alloc (Nat.le_refl _) _
  have CR := sessCheck_any v ls i _ B (hv.below hb0 hB) (by simp; omega)
  have HGD := ghid (checkS_zero hr)
  have hl4 := HGD.out.len
  rw [hr] at CR
  have HV := ghid hv
  have CP := ghid (fun u w' hu => splace_any u ls c w' w'.heap.size hu (Nat.le_refl _))
  have hin := placeS_le ls c
  obtain ⟨ao, cap, rfl, -⟩ := hv
  cases ht : thereS ls c with
  | true =>
    obtain ⟨x, hx, -⟩ := thereS_some ht
    rw [leaveS_there ht]
    rw [ht] at CP
    have hlt : placeS ls c < ls.length := (List.getElem?_eq_some_iff.1 hx).1
    obtain ⟨n, hne⟩ : ∃ n, n = placeS ls c := ⟨_, rfl⟩
    rw [← hne] at CP hin hlt ⊢
    simp only
    clear hne ht hr hx
    go_enter Tryz.func140, Tryz.ntmps140
    go_wp2_with fail
    refine CR.mono ?_
    rintro e w1 ⟨rfl, hb1⟩
    have HR1 := ghid ((GReply.new w).below hb1 (by simp))
    have HB1 := ghid (hb0.trans (hb1.mono (by simp)))
    clear hb1 hb0 CR
    go_wp2_with fail
    refine (sessCopy_any _ ls w1 B (HV.out.below HB1.out hB) (by have := HB1.out.size; omega)).mono ?_
    rintro e w2 ⟨rfl, rs, hrs, hown2, -, hb2⟩
    have HR2 := ghid (HR1.out.below hb2 HR1.out.lt)
    have HB2 := ghid (HB1.out.trans (hb2.mono HB1.out.size))
    have HRS := ghid hrs
    have HO2 := ghid hown2
    have hrd := hown2.reads (Nat.le_refl _)
    rw [hrs] at hrd
    clear hb2 hown2 hrs
    go_wp2_with fail
    refine (CP.out _ _ hrd).mono ?_
    rintro e w3 ⟨rfl, hb3⟩
    have HR3 := ghid (HR2.out.below hb3 HR2.out.lt)
    have HB3 := ghid (HB2.out.trans (hb3.mono HB2.out.size))
    have HO3 := ghid (HO2.out.below hb3 (Nat.le_refl _))
    obtain ⟨r0, r1, r2, rf⟩ := HR3.out.cells
    have hq : w.heap.size < w3.heap.size := HR3.out.lt
    have hq1 : w.heap.size < w1.heap.size := HR1.out.lt
    have hq2 : w1.heap.size < w3.heap.size := HO3.out.block.2
    have hq3 : w.heap.size ≠ w1.heap.size := by omega
    have hq4 : w1.heap.size ≠ w.heap.size := by omega
    clear hb3 hrd CP HO2
    have CD := deleteS w1.heap.size ls.length n rs w3 w1.heap.size HO3.out hlt (by omega)
    go_wp2_with fail
    refine CD.mono ?_
    rintro e w4 ⟨rfl, hown4, hT4⟩
    have HO4 := ghid hown4
    have HR4 := ghid (HR3.out.touch hT4 (by omega))
    have HB4 := ghid (HB3.out.trans (hT4.below (by omega) (fun k hk => by omega)))
    obtain ⟨s0, s1, s2, sf⟩ := HR4.out.cells
    have hs : w.heap.size < w4.heap.size := HR4.out.lt
    have HM := ghid (map_erase (n := n) HRS.out)
    clear hown4 hT4 CD r0 r1 r2 rf
    go_wp2
    refine bodyPost_ret (v := .tuple #[.slice (some ⟨w1.heap.size, 0, none⟩) (ls.length - 1) ls.length, .agg #[.int .i64 0, .int .i64 0, .string ⟨#[]⟩], .int .i64 0]) (by simp [results, Tryz.results140, go_sem, s0, s1, s2]) rfl ⟨_, rfl, ?_, ?_⟩
    · have t := HO4.out.out3 hq1 (.int .i64 0) (.int .i64 0) (.string ⟨#[]⟩)
      rw [HM.out] at t
      exact t
    · exact gbelow3 HB4.out (Nat.le_refl _) _ _ _
  | false =>
    rw [leaveS_away ht]
    rw [ht] at CP
    obtain ⟨n, hne⟩ : ∃ n, n = placeS ls c := ⟨_, rfl⟩
    rw [← hne] at CP hin
    simp only
    clear hne ht hr
    go_enter Tryz.func140, Tryz.ntmps140
    go_wp2_with fail
    refine CR.mono ?_
    rintro e w1 ⟨rfl, hb1⟩
    have HR1 := ghid ((GReply.new w).below hb1 (by simp))
    have HB1 := ghid (hb0.trans (hb1.mono (by simp)))
    clear hb1 hb0 CR
    go_wp2_with fail
    refine (sessCopy_any _ ls w1 B (HV.out.below HB1.out hB) (by have := HB1.out.size; omega)).mono ?_
    rintro e w2 ⟨rfl, rs, hrs, hown2, -, hb2⟩
    have HR2 := ghid (HR1.out.below hb2 HR1.out.lt)
    have HB2 := ghid (HB1.out.trans (hb2.mono HB1.out.size))
    have HRS := ghid hrs
    have HO2 := ghid hown2
    have hrd := hown2.reads (Nat.le_refl _)
    rw [hrs] at hrd
    clear hb2 hown2 hrs
    go_wp2_with fail
    refine (CP.out _ _ hrd).mono ?_
    rintro e w3 ⟨rfl, hb3⟩
    have HR3 := ghid (HR2.out.below hb3 HR2.out.lt)
    have HB3 := ghid (HB2.out.trans (hb3.mono HB2.out.size))
    have HO3 := ghid (HO2.out.below hb3 (Nat.le_refl _))
    obtain ⟨r0, r1, r2, rf⟩ := HR3.out.cells
    have hq : w.heap.size < w3.heap.size := HR3.out.lt
    have hq1 : w.heap.size < w1.heap.size := HR1.out.lt
    have hq2 : w1.heap.size < w3.heap.size := HO3.out.block.2
    have hq3 : w.heap.size ≠ w1.heap.size := by omega
    have hq4 : w1.heap.size ≠ w.heap.size := by omega
    clear hb3 hrd CP HO2
    go_wp2
    refine bodyPost_ret (v := .tuple #[.slice (some ⟨w1.heap.size, 0, none⟩) ls.length ls.length, .agg #[.int .i64 11, .int .i64 0, .string ⟨#[]⟩], .int .i64 0]) (by simp [results, Tryz.results140, go_sem, r0, r1, r2]) rfl ⟨_, rfl, ?_, ?_⟩
    · have t := HO3.out.out3 hq1 (.int .i64 11) (.int .i64 0) (.string ⟨#[]⟩)
      rw [HRS.out] at t
      exact t
    · exact gbelow3 HB3.out (Nat.le_refl _) _ _ _

end Go.Proofs.YtijilhbdbeajjaaGreatDoor
