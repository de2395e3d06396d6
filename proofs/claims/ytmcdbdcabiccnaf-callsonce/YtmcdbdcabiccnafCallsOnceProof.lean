/- a call is to be done once; asked again it is answered the same, till its client knows it: the law tackroomkeep.CallsOnce returns true at every argument; no condition. -/
import Derived.Test.YtmcdbdcabiccnafRows
import Derived.WalkKit
import Derived.ProofKit
import Derived.OpenShut
import Derived.ShutString
import Derived.Below
import Derived.SizedLaws
import Derived.Carry
import Derived.Test.YtmcdbdcabiccnafSessJoin
import Derived.Test.YtmcdbdcabiccnafSessReady
import Derived.Test.YtmcdbdcabiccnafSessKeep
import Derived.Test.YtmcdbdcabiccnafCallsMath
import Derived.Test.YtmcdbdcabiccnafKeepPicked
import Derived.Test.YtmcdbdcabiccnafReplyEq
import Derived.Deep.QuietTactic
import Derived.BigQuiet
namespace Go.Proofs.Ytmcdbdcabiccnaf.callsOnce
open Go.ChangeShapes Go.WideShapes Go.ChangeAt Go.RowKit
open Go.ChangeMaps (open_string shut_string)
set_option linter.unusedVariables false

theorem own : ownKnob Try.prog.godebug = none := by kernel_rfl
theorem laidOut : laidOutB Try.prog = true := by kernel_rfl

set_option maxRecDepth 100000 in
set_option maxHeartbeats 6400000 in
theorem walk (w : World) (a0 : Int) (b0 : -9223372036854775808 ≤ a0 ∧ a0 ≤ 9223372036854775807) (a1 : Int) (b1 : -9223372036854775808 ≤ a1 ∧ a1 ≤ 9223372036854775807) (a2 : Int) (b2 : -9223372036854775808 ≤ a2 ∧ a2 ≤ 9223372036854775807) :
    Calls Try.prog 6 #[.int .i64 a0, .int .i64 a1, .int .i64 a2] w fun e w' => e = .returned (.bool true) ∧ Below w.heap.size w w' := by
  have hp := pickZ_bd a0 9 (by omega)
  have hp2 := pickZ_bd a1 4 (by omega)
  have hp3 := pickZ_bd a2 100 (by omega)
  have CP := ghid (fun w => picked_any a0 9 w b0.1 b0.2 (by omega) (by omega))
  have CQ := ghid (fun w => picked_any a1 4 w b1.1 b1.2 (by omega) (by omega))
  have CR := ghid (fun w => picked_any a2 100 w b2.1 b2.2 (by omega) (by omega))
  obtain ⟨p, hpe⟩ : ∃ p, p = pickZ a0 9 := ⟨_, rfl⟩
  obtain ⟨q, hqe⟩ : ∃ q, q = pickZ a1 4 := ⟨_, rfl⟩
  obtain ⟨m, hme⟩ : ∃ m, m = pickZ a2 100 := ⟨_, rfl⟩
  rw [← hpe] at CP hp
  rw [← hqe] at CQ hp2
  rw [← hme] at CR hp3
  obtain ⟨p0, p1⟩ := hp
  obtain ⟨q0, q1⟩ := hp2
  obtain ⟨m0, m1⟩ := hp3
  obtain ⟨j1, j2⟩ := join_first (c := 1 + p) (by omega) (by omega)
  have CJ := ghid (fun w => Join_ok (.slice none 0 0) [] 0 (1 + p) w w.heap.size (SessR.nil _ _) (Nat.le_refl _) j1)
  rw [j2] at CJ
  obtain ⟨t, ht⟩ : ∃ t : ByteArray, t = ⟨#[120]⟩ := ⟨_, rfl⟩
  have hts : t.size = 1 := by rw [ht]; rfl
  have F1 := ghid (calls_first (c := 1 + p) (k := 1 + q) (by omega) (by omega) (by omega) (by omega))
  have F2 := ghid (calls_keep (c := 1 + p) (k := 1 + q) (m := m) (t := t) (by omega) (by omega) (by omega) (by omega) m0 m1 hts)
  have F3 := ghid (calls_again (c := 1 + p) (k := 1 + q) (m := m) (t := t) (by omega) (by omega) (by omega) (by omega) m0 m1 hts)
  have F4 := ghid (calls_next (c := 1 + p) (k := 1 + q) (m := m) (t := t) (by omega) (by omega) (by omega) (by omega) m0 m1 hts)
  have F5 := ghid (calls_old (c := 1 + p) (k := 1 + q) (by omega) (by omega) (by omega) (by omega))
  subst ht
  have hts2 : (⟨#[120]⟩ : ByteArray).size ≤ 140737488351232 := by rw [hts]; decide
  have hqa := fun w => reply_eq 0 m ⟨#[120]⟩ w
  have hqb := fun w => reply_eq 0 0 ⟨#[]⟩ w
  have hgd : Try.prog.eqGuardType Try.prog.depth 26 = false := by kernel_rfl
  clear hpe hqe hme j1 j2 hts
  go_enter Try.func6, Try.ntmps6
  go_wp2_with fail
  refine (CP.out _).mono ?_
  rintro e w9 ⟨rfl, hw⟩
  subst w9
  go_wp2_with fail
  refine (CJ.out _).mono ?_
  rintro e w1 ⟨v1, rfl, hr1, hb1⟩
  simp only at hr1 ⊢
  have HS1 := ghid hr1
  have HB1 := ghid hb1
  obtain ⟨vo1, vc1, rfl, -⟩ := hr1
  clear hb1 CJ
  go_wp2_with fail
  refine (CQ.out _).mono ?_
  rintro e w9 ⟨rfl, hw⟩
  subst w9
  have hU2 : Below w1.heap.size w1 ((w1.alloc (.cells #[.int .i64 0, .int .i64 1, .string ⟨#[]⟩] 26)).alloc (.cells #[.int .i64 2, .int .i64 (1 + p), .int .i64 1, .int .i64 (1 + q), .int .i64 0, .int .i64 0, .string ⟨#[]⟩, .string ⟨#[]⟩, .int .i64 0] 34)) := by
    exact (((Below.refl _ _).alloc (Nat.le_refl _) _).alloc (by simp; try omega) _)
  have HU2 := ghid hU2
  clear hU2
  go_wp2_with fail
  refine (Ready_ok _ [⟨1 + p, 1, 0, 1, []⟩] 1 2 (1 + p) 1 (1 + q) 0 0 ⟨#[]⟩ ⟨#[]⟩ 0 _ w1.heap.size ((HS1.out).below HU2.out (Nat.le_refl _)) HU2.out.size F1.out.1).mono ?_
  rintro e w2 ⟨v2, rfl, hr2, hb2⟩
  have hbU2 : Below w1.heap.size w1 w2 := HU2.out.trans (hb2.mono HU2.out.size)
  have HB2 := ghid (HB1.out.trans (hbU2.mono HB1.out.size))
  have HGR2 := ghid ((hb2.block w1.heap.size (by simp; try omega)).trans ((Below.heap_alloc _ _ _ (by simp; try omega)).trans (heap_alloc_new w1 (.cells #[.int .i64 0, .int .i64 1, .string ⟨#[]⟩] 26))))
  have HGC2 := ghid ((hb2.block (w1.heap.size + 1) (by simp; try omega)).trans (gheap_at (w1.alloc (.cells #[.int .i64 0, .int .i64 1, .string ⟨#[]⟩] 26)) (.cells #[.int .i64 2, .int .i64 (1 + p), .int .i64 1, .int .i64 (1 + q), .int .i64 0, .int .i64 0, .string ⟨#[]⟩, .string ⟨#[]⟩, .int .i64 0] 34) _ (by simp)))
  rw [F1.out.2] at hr2 ⊢
  simp only at hr2 ⊢
  have HS2 := ghid hr2
  obtain ⟨vo2, vc2, rfl, -⟩ := hr2
  have cR1_2 := cell_of_row w2 w1.heap.size 1 _ _ _ HGR2.out
  simp only [List.getElem?_toArray, List.getElem?_cons_zero, List.getElem?_cons_succ] at cR1_2
  have lR2 : w1.heap.size < w2.heap.size := lt_of_block HGR2.out
  have cC0_2 := cell_of_row w2 (w1.heap.size + 1) 0 _ _ _ HGC2.out
  have cC1_2 := cell_of_row w2 (w1.heap.size + 1) 1 _ _ _ HGC2.out
  have cC2_2 := cell_of_row w2 (w1.heap.size + 1) 2 _ _ _ HGC2.out
  have cC3_2 := cell_of_row w2 (w1.heap.size + 1) 3 _ _ _ HGC2.out
  have cC4_2 := cell_of_row w2 (w1.heap.size + 1) 4 _ _ _ HGC2.out
  have cC5_2 := cell_of_row w2 (w1.heap.size + 1) 5 _ _ _ HGC2.out
  have cC6_2 := cell_of_row w2 (w1.heap.size + 1) 6 _ _ _ HGC2.out
  have cC7_2 := cell_of_row w2 (w1.heap.size + 1) 7 _ _ _ HGC2.out
  have cC8_2 := cell_of_row w2 (w1.heap.size + 1) 8 _ _ _ HGC2.out
  simp only [List.getElem?_toArray, List.getElem?_cons_zero, List.getElem?_cons_succ] at cC0_2 cC1_2 cC2_2 cC3_2 cC4_2 cC5_2 cC6_2 cC7_2 cC8_2
  have lC2 : (w1.heap.size + 1) < w2.heap.size := lt_of_block HGC2.out
  clear hb2 hbU2
  go_wp2_with fail
  refine (CR.out _).mono ?_
  rintro e w9 ⟨rfl, hw⟩
  subst w9
  have hU3 : Below w2.heap.size w2 (w2.alloc (.cells #[.int .i64 0, .int .i64 0, .string ⟨#[]⟩] 26)) := by
    exact ((Below.refl _ _).alloc (Nat.le_refl _) _)
  have HU3 := ghid hU3
  clear hU3
  go_wp2_with fail
  refine (Keep_any _ [⟨1 + p, 1, 0, 2, []⟩] 2 (1 + p) (1 + q) 0 m ⟨#[120]⟩ _ w2.heap.size (HS2.out.below HU3.out (Nat.le_refl _)) HU3.out.size hts2).mono ?_
  rintro e w3 ⟨v3, rfl, hr3, hb3⟩
  have hbU3 : Below w2.heap.size w2 w3 := HU3.out.trans (hb3.mono HU3.out.size)
  have HB3 := ghid (HB2.out.trans (hbU3.mono HB2.out.size))
  have HGR3 := ghid ((hbU3.block w1.heap.size (lt_of_block HGR2.out)).trans HGR2.out)
  have HGC3 := ghid ((hbU3.block (w1.heap.size + 1) (lt_of_block HGC2.out)).trans HGC2.out)
  rw [F2.out.1] at hr3 ⊢
  rw [if_pos rfl, F2.out.2] at hr3
  have HS3 := ghid hr3
  obtain ⟨vo3, vc3, rfl, -⟩ := hr3
  have cR1_3 := cell_of_row w3 w1.heap.size 1 _ _ _ HGR3.out
  simp only [List.getElem?_toArray, List.getElem?_cons_zero, List.getElem?_cons_succ] at cR1_3
  have lR3 : w1.heap.size < w3.heap.size := lt_of_block HGR3.out
  have cC0_3 := cell_of_row w3 (w1.heap.size + 1) 0 _ _ _ HGC3.out
  have cC1_3 := cell_of_row w3 (w1.heap.size + 1) 1 _ _ _ HGC3.out
  have cC2_3 := cell_of_row w3 (w1.heap.size + 1) 2 _ _ _ HGC3.out
  have cC3_3 := cell_of_row w3 (w1.heap.size + 1) 3 _ _ _ HGC3.out
  have cC4_3 := cell_of_row w3 (w1.heap.size + 1) 4 _ _ _ HGC3.out
  have cC5_3 := cell_of_row w3 (w1.heap.size + 1) 5 _ _ _ HGC3.out
  have cC6_3 := cell_of_row w3 (w1.heap.size + 1) 6 _ _ _ HGC3.out
  have cC7_3 := cell_of_row w3 (w1.heap.size + 1) 7 _ _ _ HGC3.out
  have cC8_3 := cell_of_row w3 (w1.heap.size + 1) 8 _ _ _ HGC3.out
  simp only [List.getElem?_toArray, List.getElem?_cons_zero, List.getElem?_cons_succ] at cC0_3 cC1_3 cC2_3 cC3_3 cC4_3 cC5_3 cC6_3 cC7_3 cC8_3
  have lC3 : (w1.heap.size + 1) < w3.heap.size := lt_of_block HGC3.out
  clear hb3 hbU3
  have hU4 : Below w3.heap.size w3 w3 := by
    exact Below.refl _ _
  have HU4 := ghid hU4
  clear hU4
  go_wp2_with fail
  refine (Ready_ok _ [⟨1 + p, 1, 0, 2, [⟨1 + q, 0, m, ⟨#[120]⟩⟩]⟩] 2 2 (1 + p) 1 (1 + q) 0 0 ⟨#[]⟩ ⟨#[]⟩ 0 _ w3.heap.size ((HS3.out).below HU4.out (Nat.le_refl _)) HU4.out.size F3.out.1).mono ?_
  rintro e w4 ⟨v4, rfl, hr4, hb4⟩
  have hbU4 : Below w3.heap.size w3 w4 := HU4.out.trans (hb4.mono HU4.out.size)
  have HB4 := ghid (HB3.out.trans (hbU4.mono HB3.out.size))
  have HGR4 := ghid ((hbU4.block w1.heap.size (lt_of_block HGR3.out)).trans HGR3.out)
  have HGC4 := ghid ((hbU4.block (w1.heap.size + 1) (lt_of_block HGC3.out)).trans HGC3.out)
  rw [F3.out.2] at hr4 ⊢
  simp only at hr4 ⊢
  have HS4 := ghid hr4
  obtain ⟨vo4, vc4, rfl, -⟩ := hr4
  have cR1_4 := cell_of_row w4 w1.heap.size 1 _ _ _ HGR4.out
  simp only [List.getElem?_toArray, List.getElem?_cons_zero, List.getElem?_cons_succ] at cR1_4
  have lR4 : w1.heap.size < w4.heap.size := lt_of_block HGR4.out
  have cC0_4 := cell_of_row w4 (w1.heap.size + 1) 0 _ _ _ HGC4.out
  have cC1_4 := cell_of_row w4 (w1.heap.size + 1) 1 _ _ _ HGC4.out
  have cC2_4 := cell_of_row w4 (w1.heap.size + 1) 2 _ _ _ HGC4.out
  have cC3_4 := cell_of_row w4 (w1.heap.size + 1) 3 _ _ _ HGC4.out
  have cC4_4 := cell_of_row w4 (w1.heap.size + 1) 4 _ _ _ HGC4.out
  have cC5_4 := cell_of_row w4 (w1.heap.size + 1) 5 _ _ _ HGC4.out
  have cC6_4 := cell_of_row w4 (w1.heap.size + 1) 6 _ _ _ HGC4.out
  have cC7_4 := cell_of_row w4 (w1.heap.size + 1) 7 _ _ _ HGC4.out
  have cC8_4 := cell_of_row w4 (w1.heap.size + 1) 8 _ _ _ HGC4.out
  simp only [List.getElem?_toArray, List.getElem?_cons_zero, List.getElem?_cons_succ] at cC0_4 cC1_4 cC2_4 cC3_4 cC4_4 cC5_4 cC6_4 cC7_4 cC8_4
  have lC4 : (w1.heap.size + 1) < w4.heap.size := lt_of_block HGC4.out
  clear hb4 hbU4
  have hU5 : Below w4.heap.size w4 (w4.alloc (.cells #[.int .i64 0, .int .i64 m, .string ⟨#[120]⟩] 26)) := by
    exact ((Below.refl _ _).alloc (Nat.le_refl _) _)
  have HU5 := ghid hU5
  clear hU5
  go_wp2_with fail
  refine (Ready_ok _ [⟨1 + p, 1, 0, 3, [⟨1 + q, 0, m, ⟨#[120]⟩⟩]⟩] 3 2 (1 + p) 1 (1 + q + 1) (1 + q) 0 ⟨#[]⟩ ⟨#[]⟩ 0 _ w4.heap.size ((HS4.out).below HU5.out (Nat.le_refl _)) HU5.out.size F4.out.1).mono ?_
  rintro e w5 ⟨v5, rfl, hr5, hb5⟩
  have hbU5 : Below w4.heap.size w4 w5 := HU5.out.trans (hb5.mono HU5.out.size)
  have HB5 := ghid (HB4.out.trans (hbU5.mono HB4.out.size))
  have HGR5 := ghid ((hbU5.block w1.heap.size (lt_of_block HGR4.out)).trans HGR4.out)
  have HGC5 := ghid ((hbU5.block (w1.heap.size + 1) (lt_of_block HGC4.out)).trans HGC4.out)
  have HGA5 := ghid ((hb5.block w4.heap.size (by simp; try omega)).trans (heap_alloc_new w4 (.cells #[.int .i64 0, .int .i64 m, .string ⟨#[120]⟩] 26)))
  rw [F4.out.2.1] at hr5 ⊢
  simp only at hr5 ⊢
  obtain ⟨vo5, vc5, rfl, -⟩ := hr5
  have cR1_5 := cell_of_row w5 w1.heap.size 1 _ _ _ HGR5.out
  simp only [List.getElem?_toArray, List.getElem?_cons_zero, List.getElem?_cons_succ] at cR1_5
  have lR5 : w1.heap.size < w5.heap.size := lt_of_block HGR5.out
  have cC0_5 := cell_of_row w5 (w1.heap.size + 1) 0 _ _ _ HGC5.out
  have cC1_5 := cell_of_row w5 (w1.heap.size + 1) 1 _ _ _ HGC5.out
  have cC2_5 := cell_of_row w5 (w1.heap.size + 1) 2 _ _ _ HGC5.out
  have cC3_5 := cell_of_row w5 (w1.heap.size + 1) 3 _ _ _ HGC5.out
  have cC4_5 := cell_of_row w5 (w1.heap.size + 1) 4 _ _ _ HGC5.out
  have cC5_5 := cell_of_row w5 (w1.heap.size + 1) 5 _ _ _ HGC5.out
  have cC6_5 := cell_of_row w5 (w1.heap.size + 1) 6 _ _ _ HGC5.out
  have cC7_5 := cell_of_row w5 (w1.heap.size + 1) 7 _ _ _ HGC5.out
  have cC8_5 := cell_of_row w5 (w1.heap.size + 1) 8 _ _ _ HGC5.out
  simp only [List.getElem?_toArray, List.getElem?_cons_zero, List.getElem?_cons_succ] at cC0_5 cC1_5 cC2_5 cC3_5 cC4_5 cC5_5 cC6_5 cC7_5 cC8_5
  have lC5 : (w1.heap.size + 1) < w5.heap.size := lt_of_block HGC5.out
  have cA0_5 := cell_of_row w5 w4.heap.size 0 _ _ _ HGA5.out
  have cA1_5 := cell_of_row w5 w4.heap.size 1 _ _ _ HGA5.out
  have cA2_5 := cell_of_row w5 w4.heap.size 2 _ _ _ HGA5.out
  simp only [List.getElem?_toArray, List.getElem?_cons_zero, List.getElem?_cons_succ] at cA0_5 cA1_5 cA2_5
  have lA5 : w4.heap.size < w5.heap.size := lt_of_block HGA5.out
  have HS45 := ghid ((HS4.out.below hbU5 (Nat.le_refl _)).mono hbU5.size)
  clear hb5 hbU5
  have hU6 : Below w5.heap.size w5 (w5.alloc (.cells #[.int .i64 0, .int .i64 0, .string ⟨#[]⟩] 26)) := by
    exact ((Below.refl _ _).alloc (Nat.le_refl _) _)
  have HU6 := ghid hU6
  clear hU6
  go_wp2_with fail
  refine (Ready_ok _ [⟨1 + p, 1, 0, 3, [⟨1 + q, 0, m, ⟨#[120]⟩⟩]⟩] 3 2 (1 + p) 1 (1 + q + 1) (1 + q) 0 ⟨#[]⟩ ⟨#[]⟩ 0 _ w5.heap.size ((HS45.out).below HU6.out (Nat.le_refl _)) HU6.out.size F4.out.1).mono ?_
  rintro e w6 ⟨v6, rfl, hr6, hb6⟩
  have hbU6 : Below w5.heap.size w5 w6 := HU6.out.trans (hb6.mono HU6.out.size)
  have HB6 := ghid (HB5.out.trans (hbU6.mono HB5.out.size))
  have HGR6 := ghid ((hbU6.block w1.heap.size (lt_of_block HGR5.out)).trans HGR5.out)
  have HGC6 := ghid ((hbU6.block (w1.heap.size + 1) (lt_of_block HGC5.out)).trans HGC5.out)
  have HGA6 := ghid ((hbU6.block w4.heap.size (lt_of_block HGA5.out)).trans HGA5.out)
  have HGX6 := ghid ((hb6.block w5.heap.size (by simp; try omega)).trans (heap_alloc_new w5 (.cells #[.int .i64 0, .int .i64 0, .string ⟨#[]⟩] 26)))
  rw [F4.out.2.1] at hr6 ⊢
  simp only at hr6 ⊢
  have HS6 := ghid hr6
  obtain ⟨vo6, vc6, rfl, -⟩ := hr6
  have cR1_6 := cell_of_row w6 w1.heap.size 1 _ _ _ HGR6.out
  simp only [List.getElem?_toArray, List.getElem?_cons_zero, List.getElem?_cons_succ] at cR1_6
  have lR6 : w1.heap.size < w6.heap.size := lt_of_block HGR6.out
  have cC0_6 := cell_of_row w6 (w1.heap.size + 1) 0 _ _ _ HGC6.out
  have cC1_6 := cell_of_row w6 (w1.heap.size + 1) 1 _ _ _ HGC6.out
  have cC2_6 := cell_of_row w6 (w1.heap.size + 1) 2 _ _ _ HGC6.out
  have cC3_6 := cell_of_row w6 (w1.heap.size + 1) 3 _ _ _ HGC6.out
  have cC4_6 := cell_of_row w6 (w1.heap.size + 1) 4 _ _ _ HGC6.out
  have cC5_6 := cell_of_row w6 (w1.heap.size + 1) 5 _ _ _ HGC6.out
  have cC6_6 := cell_of_row w6 (w1.heap.size + 1) 6 _ _ _ HGC6.out
  have cC7_6 := cell_of_row w6 (w1.heap.size + 1) 7 _ _ _ HGC6.out
  have cC8_6 := cell_of_row w6 (w1.heap.size + 1) 8 _ _ _ HGC6.out
  simp only [List.getElem?_toArray, List.getElem?_cons_zero, List.getElem?_cons_succ] at cC0_6 cC1_6 cC2_6 cC3_6 cC4_6 cC5_6 cC6_6 cC7_6 cC8_6
  have lC6 : (w1.heap.size + 1) < w6.heap.size := lt_of_block HGC6.out
  have cA0_6 := cell_of_row w6 w4.heap.size 0 _ _ _ HGA6.out
  have cA1_6 := cell_of_row w6 w4.heap.size 1 _ _ _ HGA6.out
  have cA2_6 := cell_of_row w6 w4.heap.size 2 _ _ _ HGA6.out
  simp only [List.getElem?_toArray, List.getElem?_cons_zero, List.getElem?_cons_succ] at cA0_6 cA1_6 cA2_6
  have lA6 : w4.heap.size < w6.heap.size := lt_of_block HGA6.out
  have cX0_6 := cell_of_row w6 w5.heap.size 0 _ _ _ HGX6.out
  have cX1_6 := cell_of_row w6 w5.heap.size 1 _ _ _ HGX6.out
  have cX2_6 := cell_of_row w6 w5.heap.size 2 _ _ _ HGX6.out
  simp only [List.getElem?_toArray, List.getElem?_cons_zero, List.getElem?_cons_succ] at cX0_6 cX1_6 cX2_6
  have lX6 : w5.heap.size < w6.heap.size := lt_of_block HGX6.out
  have HS46 := ghid ((HS45.out.below hbU6 (Nat.le_refl _)).mono hbU6.size)
  clear hb6 hbU6
  have hU7 : Below w6.heap.size w6 (w6.alloc (.cells #[.int .i64 0, .int .i64 0, .string ⟨#[]⟩] 26)) := by
    exact ((Below.refl _ _).alloc (Nat.le_refl _) _)
  have HU7 := ghid hU7
  clear hU7
  go_wp2_with fail
  refine (Ready_ok _ [⟨1 + p, 1, 1 + q, 4, []⟩] 4 2 (1 + p) 1 (1 + q) 0 0 ⟨#[]⟩ ⟨#[]⟩ 0 _ w6.heap.size ((HS6.out).below HU7.out (Nat.le_refl _)) HU7.out.size F5.out.1).mono ?_
  rintro e w7 ⟨v7, rfl, hr7, hb7⟩
  have hbU7 : Below w6.heap.size w6 w7 := HU7.out.trans (hb7.mono HU7.out.size)
  have HB7 := ghid (HB6.out.trans (hbU7.mono HB6.out.size))
  have HGR7 := ghid ((hbU7.block w1.heap.size (lt_of_block HGR6.out)).trans HGR6.out)
  have HGC7 := ghid ((hbU7.block (w1.heap.size + 1) (lt_of_block HGC6.out)).trans HGC6.out)
  have HGA7 := ghid ((hbU7.block w4.heap.size (lt_of_block HGA6.out)).trans HGA6.out)
  have HGX7 := ghid ((hbU7.block w5.heap.size (lt_of_block HGX6.out)).trans HGX6.out)
  rw [F5.out.2] at hr7 ⊢
  simp only at hr7 ⊢
  obtain ⟨vo7, vc7, rfl, -⟩ := hr7
  have cR1_7 := cell_of_row w7 w1.heap.size 1 _ _ _ HGR7.out
  simp only [List.getElem?_toArray, List.getElem?_cons_zero, List.getElem?_cons_succ] at cR1_7
  have lR7 : w1.heap.size < w7.heap.size := lt_of_block HGR7.out
  have cC0_7 := cell_of_row w7 (w1.heap.size + 1) 0 _ _ _ HGC7.out
  have cC1_7 := cell_of_row w7 (w1.heap.size + 1) 1 _ _ _ HGC7.out
  have cC2_7 := cell_of_row w7 (w1.heap.size + 1) 2 _ _ _ HGC7.out
  have cC3_7 := cell_of_row w7 (w1.heap.size + 1) 3 _ _ _ HGC7.out
  have cC4_7 := cell_of_row w7 (w1.heap.size + 1) 4 _ _ _ HGC7.out
  have cC5_7 := cell_of_row w7 (w1.heap.size + 1) 5 _ _ _ HGC7.out
  have cC6_7 := cell_of_row w7 (w1.heap.size + 1) 6 _ _ _ HGC7.out
  have cC7_7 := cell_of_row w7 (w1.heap.size + 1) 7 _ _ _ HGC7.out
  have cC8_7 := cell_of_row w7 (w1.heap.size + 1) 8 _ _ _ HGC7.out
  simp only [List.getElem?_toArray, List.getElem?_cons_zero, List.getElem?_cons_succ] at cC0_7 cC1_7 cC2_7 cC3_7 cC4_7 cC5_7 cC6_7 cC7_7 cC8_7
  have lC7 : (w1.heap.size + 1) < w7.heap.size := lt_of_block HGC7.out
  have cA0_7 := cell_of_row w7 w4.heap.size 0 _ _ _ HGA7.out
  have cA1_7 := cell_of_row w7 w4.heap.size 1 _ _ _ HGA7.out
  have cA2_7 := cell_of_row w7 w4.heap.size 2 _ _ _ HGA7.out
  simp only [List.getElem?_toArray, List.getElem?_cons_zero, List.getElem?_cons_succ] at cA0_7 cA1_7 cA2_7
  have lA7 : w4.heap.size < w7.heap.size := lt_of_block HGA7.out
  have cX0_7 := cell_of_row w7 w5.heap.size 0 _ _ _ HGX7.out
  have cX1_7 := cell_of_row w7 w5.heap.size 1 _ _ _ HGX7.out
  have cX2_7 := cell_of_row w7 w5.heap.size 2 _ _ _ HGX7.out
  simp only [List.getElem?_toArray, List.getElem?_cons_zero, List.getElem?_cons_succ] at cX0_7 cX1_7 cX2_7
  have lX7 : w5.heap.size < w7.heap.size := lt_of_block HGX7.out
  have HS47 := ghid ((HS46.out.below hbU7 (Nat.le_refl _)).mono hbU7.size)
  clear hb7 hbU7
  have hU8 : Below w7.heap.size w7 (w7.alloc (.cells #[.int .i64 12, .int .i64 0, .string ⟨#[]⟩] 26)) := by
    exact ((Below.refl _ _).alloc (Nat.le_refl _) _)
  have HU8 := ghid hU8
  clear hU8
  go_wp2_with fail
  refine (Ready_ok _ [⟨1 + p, 1, 0, 3, [⟨1 + q, 0, m, ⟨#[120]⟩⟩]⟩] 3 2 (1 + p) 2 (1 + q + 1) (1 + q) 0 ⟨#[]⟩ ⟨#[]⟩ 0 _ w7.heap.size ((HS47.out).below HU8.out (Nat.le_refl _)) HU8.out.size F4.out.1).mono ?_
  rintro e w8 ⟨v8, rfl, hr8, hb8⟩
  have hbU8 : Below w7.heap.size w7 w8 := HU8.out.trans (hb8.mono HU8.out.size)
  have HB8 := ghid (HB7.out.trans (hbU8.mono HB7.out.size))
  have HGR8 := ghid ((hbU8.block w1.heap.size (lt_of_block HGR7.out)).trans HGR7.out)
  have HGC8 := ghid ((hbU8.block (w1.heap.size + 1) (lt_of_block HGC7.out)).trans HGC7.out)
  have HGA8 := ghid ((hbU8.block w4.heap.size (lt_of_block HGA7.out)).trans HGA7.out)
  have HGX8 := ghid ((hbU8.block w5.heap.size (lt_of_block HGX7.out)).trans HGX7.out)
  have HGO8 := ghid ((hb8.block w7.heap.size (by simp; try omega)).trans (heap_alloc_new w7 (.cells #[.int .i64 12, .int .i64 0, .string ⟨#[]⟩] 26)))
  rw [F4.out.2.2] at hr8 ⊢
  simp only at hr8 ⊢
  obtain ⟨vo8, vc8, rfl, -⟩ := hr8
  have cR1_8 := cell_of_row w8 w1.heap.size 1 _ _ _ HGR8.out
  simp only [List.getElem?_toArray, List.getElem?_cons_zero, List.getElem?_cons_succ] at cR1_8
  have lR8 : w1.heap.size < w8.heap.size := lt_of_block HGR8.out
  have cC0_8 := cell_of_row w8 (w1.heap.size + 1) 0 _ _ _ HGC8.out
  have cC1_8 := cell_of_row w8 (w1.heap.size + 1) 1 _ _ _ HGC8.out
  have cC2_8 := cell_of_row w8 (w1.heap.size + 1) 2 _ _ _ HGC8.out
  have cC3_8 := cell_of_row w8 (w1.heap.size + 1) 3 _ _ _ HGC8.out
  have cC4_8 := cell_of_row w8 (w1.heap.size + 1) 4 _ _ _ HGC8.out
  have cC5_8 := cell_of_row w8 (w1.heap.size + 1) 5 _ _ _ HGC8.out
  have cC6_8 := cell_of_row w8 (w1.heap.size + 1) 6 _ _ _ HGC8.out
  have cC7_8 := cell_of_row w8 (w1.heap.size + 1) 7 _ _ _ HGC8.out
  have cC8_8 := cell_of_row w8 (w1.heap.size + 1) 8 _ _ _ HGC8.out
  simp only [List.getElem?_toArray, List.getElem?_cons_zero, List.getElem?_cons_succ] at cC0_8 cC1_8 cC2_8 cC3_8 cC4_8 cC5_8 cC6_8 cC7_8 cC8_8
  have lC8 : (w1.heap.size + 1) < w8.heap.size := lt_of_block HGC8.out
  have cA0_8 := cell_of_row w8 w4.heap.size 0 _ _ _ HGA8.out
  have cA1_8 := cell_of_row w8 w4.heap.size 1 _ _ _ HGA8.out
  have cA2_8 := cell_of_row w8 w4.heap.size 2 _ _ _ HGA8.out
  simp only [List.getElem?_toArray, List.getElem?_cons_zero, List.getElem?_cons_succ] at cA0_8 cA1_8 cA2_8
  have lA8 : w4.heap.size < w8.heap.size := lt_of_block HGA8.out
  have cX0_8 := cell_of_row w8 w5.heap.size 0 _ _ _ HGX8.out
  have cX1_8 := cell_of_row w8 w5.heap.size 1 _ _ _ HGX8.out
  have cX2_8 := cell_of_row w8 w5.heap.size 2 _ _ _ HGX8.out
  simp only [List.getElem?_toArray, List.getElem?_cons_zero, List.getElem?_cons_succ] at cX0_8 cX1_8 cX2_8
  have lX8 : w5.heap.size < w8.heap.size := lt_of_block HGX8.out
  have cO0_8 := cell_of_row w8 w7.heap.size 0 _ _ _ HGO8.out
  simp only [List.getElem?_toArray, List.getElem?_cons_zero] at cO0_8
  have lO8 : w7.heap.size < w8.heap.size := lt_of_block HGO8.out
  clear hb8 hbU8
  go_wp2_with fail
  go_quiet ((go_at_call 16; exact Calls.quiet_of_same (CR.out _)))
  go_wp2
  go_ret
  exact ⟨rfl, (HB8.out.alloc HB8.out.size _).trans (g_drewN_below _ _ _)⟩

set_option maxRecDepth 100000 in
theorem lifted (os : Os) (started : os.Started) (H : Type) (enc : TypeId × Value → H) :
    ReturnsInHanded {} Try.checked os 6 .any (Rows.callsOnceSpec.pre6 enc Try.prog Try.f6 Rows.callsOnceRow.domain false) (Rows.callsOnceSpec.post enc Try.prog Try.f6 false true false false) := by
  refine returnsInHanded_of_change_sized (C := Try.checked) own started (by kernel_rfl) Try.func6
    (ChangeSpec.witness6 (enc := enc) (C := Try.checked) false ⟨#[], #[.int .i64 0, .int .i64 0, .int .i64 0], []⟩ 8 (by kernel_rfl) (by kernel_rfl) (by kernel_rfl) (by kernel_rfl)) ?_
  intro W base args ds gs before hval0 hW hcnd hsz _
  have hval : ∀ (j : Nat) t v, Try.f6.params[j]? = some t → args[j]? = some v → Value.okWide Try.prog W .any base t v := hval0
  have hW' := hW
  obtain ⟨p, q, hA0, hV, rfl, hfz, hnd⟩ := hW
  have hA : DataW.TrodAll enc Try.prog W 0 (fun _ => true) true Try.f6.params.toList args.toList ds p := hA0
  rw [Try.params6] at hA hval
  obtain ⟨v0, vs0, d0, ds0, p0, q0, hargs, rfl, rfl, h0, r0⟩ := trodAll_cons hA
  obtain ⟨v1, vs1, d1, ds1, p1, q1, rfl, rfl, rfl, h1, r1⟩ := trodAll_cons r0
  obtain ⟨v2, vs2, d2, ds2, p2, q2, rfl, rfl, rfl, h2, r2⟩ := trodAll_cons r1
  obtain ⟨rfl, rfl, rfl⟩ := trodAll_nil r2
  obtain rfl : args = #[v0, v1, v2] := by cases args; simp_all
  obtain ⟨rfl, rfl⟩ := trodVars_none hV
  simp only [List.append_nil] at hW'
  have lt0 : ∀ x ∈ p0, x.block < W.heap.size := fun x hx => by simpa using hW'.lt x (by simp [hx])
  have lt1 : ∀ x ∈ p1, x.block < W.heap.size := fun x hx => by simpa using hW'.lt x (by simp [hx])
  have lt2 : ∀ x ∈ p2, x.block < W.heap.size := fun x hx => by simpa using hW'.lt x (by simp [hx])
  have k0 := h0
  obtain ⟨a0, rfl, rfl, rfl, w0⟩ := open_int Try.underlying3 (hval 0 3 v0 rfl rfl) h0
  have b0 : -9223372036854775808 ≤ a0 ∧ a0 ≤ 9223372036854775807 := bounds_i64 w0
  have k1 := h1
  obtain ⟨a1, rfl, rfl, rfl, w1⟩ := open_int Try.underlying3 (hval 1 3 v1 rfl rfl) h1
  have b1 : -9223372036854775808 ≤ a1 ∧ a1 ≤ 9223372036854775807 := bounds_i64 w1
  have k2 := h2
  obtain ⟨a2, rfl, rfl, rfl, w2⟩ := open_int Try.underlying3 (hval 2 3 v2 rfl rfl) h2
  have b2 : -9223372036854775808 ≤ a2 ∧ a2 ≤ 9223372036854775807 := bounds_i64 w2
  refine (walk W a0 b0 a1 b1 a2 b2).mono fun e W' ⟨he, hg⟩ => ?_
  subst he
  exact ⟨_, rfl, _, _, _, [], [] ++ ([] ++ ([] ++ [])), [], hW', trodAll_mk1 (shut_bool Try.underlying4 _), (trodAll_cons_mk (Below.trod laidOut (by kernel_rfl) (of_decide_eq_true (by kernel_rfl)) k0 hg lt0) (trodAll_cons_mk (Below.trod laidOut (by kernel_rfl) (of_decide_eq_true (by kernel_rfl)) k1 hg lt1) (trodAll_cons_mk (Below.trod laidOut (by kernel_rfl) (of_decide_eq_true (by kernel_rfl)) k2 hg lt2) trodAll_mk0))), rfl, hg.frame _, fun h => by cases h⟩

theorem over : Rows.callsOnceRow.holds Try.pinned (OpenSpec.ofChange Rows.callsOnceSpec) :=
  OpenClaim.holds_of_wide 6 Try.f6 rfl rfl rfl rfl rfl rfl rfl ⟨rfl, rfl, rfl, rfl, rfl⟩ rfl rfl rfl rfl rfl (by kernel_rfl) Try.func6 (by kernel_rfl)
    (of_decide_eq_true (by kernel_rfl)) (by unfold Func.isWrapper; first | (rw [if_pos (by decide +kernel)]; kernel_rfl) | (rw [if_neg (by decide +kernel)]; exact ⟨rfl, rfl⟩))
    (fun os started H enc _ => lifted os started H enc)

theorem proved : Rows.CallsOnceSaid :=
  over
end Go.Proofs.Ytmcdbdcabiccnaf.callsOnce
namespace Go.Proofs.Ytmcdbdcabiccnaf
theorem callsOnce_holds : Rows.CallsOnceSaid := callsOnce.proved
#print axioms callsOnce_holds
end Go.Proofs.Ytmcdbdcabiccnaf
