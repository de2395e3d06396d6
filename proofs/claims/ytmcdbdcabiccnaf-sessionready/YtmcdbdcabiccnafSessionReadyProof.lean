/- session.Ready answers what the document says of a call, at every argument, and leaves the sessions that were handed in: the law tackroomlaw.SessionReady returns true and leaves its arguments as they were; no condition. -/
import Derived.Test.YtmcdbdcabiccnafRows
import Derived.WalkKit
import Derived.ProofKit
import Derived.OpenShut
import Derived.ShutString
import Derived.Below
import Derived.SizedLaws
import Derived.Carry
import Derived.Test.YtmcdbdcabiccnafSessOpen
import Derived.Test.YtmcdbdcabiccnafCmdOpen
import Derived.Test.YtmcdbdcabiccnafSameSess
import Derived.Test.YtmcdbdcabiccnafSessKept
import Derived.Test.YtmcdbdcabiccnafSessReady
import Derived.Test.YtmcdbdcabiccnafRefReadyBad
import Derived.Test.YtmcdbdcabiccnafRefReady
import Derived.Test.YtmcdbdcabiccnafReplyEq
namespace Go.Proofs.Ytmcdbdcabiccnaf.sessionReady
open Go.ChangeShapes Go.WideShapes Go.ChangeAt Go.RowKit
open Go.ChangeMaps (open_string shut_string)
set_option linter.unusedVariables false

theorem own : ownKnob Try.prog.godebug = none := by kernel_rfl
theorem laidOut : laidOutB Try.prog = true := by kernel_rfl

set_option maxRecDepth 100000 in
set_option maxHeartbeats 3200000 in
theorem walk (w : World) (v0 : Value) (ls0 : List SessD) (H0 : SessR w w.heap.size v0 ls0) (a1 : Int) (b1 : -9223372036854775808 ≤ a1 ∧ a1 ≤ 9223372036854775807) (kk2 cc2 ss2 qq2 uu2 ok2 : Int) (aa2 bb2 : ByteArray) (nn2 : Int) (ZZ2 : FitsC kk2 ∧ FitsC cc2 ∧ FitsC ss2 ∧ FitsC qq2 ∧ FitsC uu2 ∧ FitsC ok2 ∧ ShortC aa2 ∧ ShortC bb2 ∧ FitsC nn2) :
    Calls Try.prog 4 #[v0, .int .i64 a1, .agg #[.int .i64 kk2, .int .i64 cc2, .int .i64 ss2, .int .i64 qq2, .int .i64 uu2, .int .i64 ok2, .string aa2, .string bb2, .int .i64 nn2]] w fun e w' => e = .returned (.bool true) ∧ Below w.heap.size w w' := by
  obtain ⟨ls', c, m, t, tb, ec, C1, C2⟩ : ∃ (ls' : List SessD) (c m : Int) (t : ByteArray) (tb : Bool) (ec : Int), (∀ (u : Value) (w' : World), SessR w' w'.heap.size u ls0 → Calls Try.prog 12 #[u, .int .i64 a1, .agg #[.int .i64 kk2, .int .i64 cc2, .int .i64 ss2, .int .i64 qq2, .int .i64 uu2, .int .i64 ok2, .string aa2, .string bb2, .int .i64 nn2]] w' fun e w2 => ∃ v', e = .returned (.tuple #[v', .agg #[.int .i64 c, .int .i64 m, .string t], .bool tb, .int .i64 ec]) ∧ SessR w2 w2.heap.size v' ls' ∧ Below w'.heap.size w' w2) ∧
      (∀ (u : Value) (w' : World), SessR w' w'.heap.size u ls0 → Calls Try.prog 13 #[u, .int .i64 a1, .agg #[.int .i64 kk2, .int .i64 cc2, .int .i64 ss2, .int .i64 qq2, .int .i64 uu2, .int .i64 ok2, .string aa2, .string bb2, .int .i64 nn2]] w' fun e w2 => ∃ v', e = .returned (.tuple #[v', .agg #[.int .i64 c, .int .i64 m, .string t], .bool tb, .int .i64 ec]) ∧ SessR w2 w2.heap.size v' ls' ∧ Below w'.heap.size w' w2) := by
    by_cases hr : readyE ls0 a1 qq2 uu2 = 0
    · refine ⟨_, _, _, _, _, 0, fun u w' hu => Ready_ok u ls0 a1 kk2 cc2 ss2 qq2 uu2 ok2 aa2 bb2 nn2 w' _ hu (Nat.le_refl _) hr, fun u w' hu => ?_⟩
      cases ht : thereS ls0 cc2 with
      | false =>
        rw [readyS_away ht]
        exact readyOf_away u ls0 a1 kk2 cc2 ss2 qq2 uu2 ok2 aa2 bb2 nn2 w' _ hu (Nat.le_refl _) hr (Or.inl ht)
      | true =>
        obtain ⟨x, hx, -⟩ := thereS_some ht
        by_cases hid : x.id = ss2
        · rw [readyS_here ht hx hid]
          exact readyOf_here u ls0 a1 kk2 cc2 ss2 qq2 uu2 ok2 aa2 bb2 nn2 w' _ hu (Nat.le_refl _) hr x ht hx hid
        · rw [readyS_other ht hx hid]
          exact readyOf_away u ls0 a1 kk2 cc2 ss2 qq2 uu2 ok2 aa2 bb2 nn2 w' _ hu (Nat.le_refl _) hr (Or.inr ⟨x, ht, hx, hid⟩)
    · exact ⟨[], 0, 0, ⟨#[]⟩, false, _, fun u w' hu => (Ready_bad u ls0 a1 kk2 cc2 ss2 qq2 uu2 ok2 aa2 bb2 nn2 w' _ hu (Nat.le_refl _) hr).mono (by rintro e w2 ⟨rfl, hb⟩; exact ⟨_, rfl, SessR.nil _ _, hb⟩), fun u w' hu => (readyOf_bad u ls0 a1 kk2 cc2 ss2 qq2 uu2 ok2 aa2 bb2 nn2 w' _ hu (Nat.le_refl _) hr).mono (by rintro e w2 ⟨rfl, hb⟩; exact ⟨_, rfl, SessR.nil _ _, hb⟩)⟩
  have hb0 : Below w.heap.size w (w.alloc (.cells #[.int .i64 kk2, .int .i64 cc2, .int .i64 ss2, .int .i64 qq2, .int .i64 uu2, .int .i64 ok2, .string aa2, .string bb2, .int .i64 nn2] 34)) := (Below.refl _ _).alloc (Nat.le_refl _) _
  have HB0 := ghid hb0
  clear hb0
  go_enter Try.func4, Try.ntmps4
  go_wp2_with fail
  refine (kept_any v0 ls0 _ _ (H0.below HB0.out (Nat.le_refl _)) (by simp)).mono ?_
  rintro e w1 ⟨k1, rfl, hk1, hb1⟩
  have hz01 : w.heap.size < w1.heap.size := by have := hb1.size; simp at this; omega
  have HG1 := ghid ((hb1.block w.heap.size (by simp)).trans (heap_alloc_new w _))
  have HB1 := ghid (HB0.out.trans (hb1.mono (by simp)))
  have HL1 := ghid (H0.below HB1.out (Nat.le_refl _))
  have HK1 := ghid hk1
  have x0 := cell_of_row w1 w.heap.size 0 _ _ _ HG1.out
  have x1 := cell_of_row w1 w.heap.size 1 _ _ _ HG1.out
  have x2 := cell_of_row w1 w.heap.size 2 _ _ _ HG1.out
  have x3 := cell_of_row w1 w.heap.size 3 _ _ _ HG1.out
  have x4 := cell_of_row w1 w.heap.size 4 _ _ _ HG1.out
  have x5 := cell_of_row w1 w.heap.size 5 _ _ _ HG1.out
  have x6 := cell_of_row w1 w.heap.size 6 _ _ _ HG1.out
  have x7 := cell_of_row w1 w.heap.size 7 _ _ _ HG1.out
  have x8 := cell_of_row w1 w.heap.size 8 _ _ _ HG1.out
  simp only [List.getElem?_toArray, List.getElem?_cons_zero, List.getElem?_cons_succ] at x0 x1 x2 x3 x4 x5 x6 x7 x8
  obtain ⟨ko, kc, hke, -⟩ := id hk1
  subst hke
  clear hb1 hk1
  go_wp2_with fail
  refine (C1 _ _ HK1.out).mono ?_
  rintro e w2 ⟨v2, rfl, hr2, hb2⟩
  have hb2' : Below w2.heap.size w2 (w2.alloc (.cells #[.int .i64 c, .int .i64 m, .string t] 26)) := (Below.refl _ _).alloc (Nat.le_refl _) _
  have HR2 := ghid (hr2.below hb2' (Nat.le_refl _))
  have HK2 := ghid ((HK1.out.below hb2 (Nat.le_refl _)).below hb2' hb2.size)
  have HL2 := ghid ((HL1.out.below hb2 (by omega)).below hb2' (by have := hb2.size; omega))
  have HG2 := ghid ((hb2.block w.heap.size hz01).trans HG1.out)
  have HB2 := ghid ((HB1.out.trans (hb2.mono HB1.out.size)).trans (hb2'.mono (Nat.le_trans HB1.out.size hb2.size)))
  have hz12 : w1.heap.size ≤ w2.heap.size := hb2.size
  have hz02 : w.heap.size < w2.heap.size := by omega
  obtain ⟨vo2, vc2, rfl, -⟩ := hr2
  clear hb2 hb2' C1 HK1 HL1 HB1 x0 x1 x2 x3 x4 x5 x6 x7 x8
  have y0 := cell_of_row w2 w.heap.size 0 _ _ _ HG2.out
  have y1 := cell_of_row w2 w.heap.size 1 _ _ _ HG2.out
  have y2 := cell_of_row w2 w.heap.size 2 _ _ _ HG2.out
  have y3 := cell_of_row w2 w.heap.size 3 _ _ _ HG2.out
  have y4 := cell_of_row w2 w.heap.size 4 _ _ _ HG2.out
  have y5 := cell_of_row w2 w.heap.size 5 _ _ _ HG2.out
  have y6 := cell_of_row w2 w.heap.size 6 _ _ _ HG2.out
  have y7 := cell_of_row w2 w.heap.size 7 _ _ _ HG2.out
  have y8 := cell_of_row w2 w.heap.size 8 _ _ _ HG2.out
  simp only [List.getElem?_toArray, List.getElem?_cons_zero, List.getElem?_cons_succ] at y0 y1 y2 y3 y4 y5 y6 y7 y8
  go_wp2_with fail
  refine (C2 _ _ (HL2.out.mono HB2.out.size)).mono ?_
  rintro e w3 ⟨v3, rfl, hr3, hb3⟩
  have hb3' : Below w3.heap.size w3 (w3.alloc (.cells #[.int .i64 c, .int .i64 m, .string t] 26)) := (Below.refl _ _).alloc (Nat.le_refl _) _
  have g3 : w3.heap[w2.heap.size]? = some (.cells #[.int .i64 c, .int .i64 m, .string t] 26 (0, 0)) := (hb3.block _ (by simp)).trans (heap_alloc_new w2 _)
  have s0 : w3.cell? ⟨w2.heap.size, 0, none⟩ = some (.int .i64 c) := cell_of_row w3 w2.heap.size 0 _ _ _ g3
  have s1 : w3.cell? ⟨w2.heap.size, 1, none⟩ = some (.int .i64 m) := cell_of_row w3 w2.heap.size 1 _ _ _ g3
  have s2 : w3.cell? ⟨w2.heap.size, 2, none⟩ = some (.string t) := cell_of_row w3 w2.heap.size 2 _ _ _ g3
  have hz23 : w2.heap.size < w3.heap.size := lt_of_block g3
  have hz23n : w2.heap.size ≠ w3.heap.size := by omega
  have HR3 := ghid (hr3.below hb3' (Nat.le_refl _))
  have HR23 := ghid ((HR2.out.below hb3 (by simp)).below hb3' (by omega))
  have HK3 := ghid ((HK2.out.below hb3 (by simp; omega)).below hb3' (by omega))
  have HL3 := ghid ((HL2.out.below hb3 (by simp; omega)).below hb3' (by omega))
  have HB3 := ghid ((HB2.out.trans (hb3.mono (by simp; omega))).trans (hb3'.mono (by omega)))
  have hq := fun w => reply_eq c m t w
  have hgd : Try.prog.eqGuardType Try.prog.depth 26 = false := by kernel_rfl
  obtain ⟨vo3, vc3, rfl, -⟩ := hr3
  clear hb3 hb3' C2 g3 y0 y1 y2 y3 y4 y5 y6 y7 y8
  cases tb
  all_goals
    go_wp2_with fail
    refine (sameSess_eq _ _ ls' _ _ _ HR23.out HR3.out (by simp; omega) (by simp)).mono ?_
    rintro e w4 ⟨rfl, hb4⟩
    have hz34 : w3.heap.size + 1 ≤ w4.heap.size := by have := hb4.size; simpa using this
    have HB4 := ghid hb4
    clear hb4
    go_wp2_with fail
    refine (sameSess_eq _ _ ls0 _ _ _ (HK3.out.below HB4.out (by simp; omega)) (HL3.out.below HB4.out (by simp; omega)) (by omega) (by omega)).mono ?_
    rintro e w5 ⟨rfl, hb5⟩
    have HB5 := ghid (HB3.out.trans ((HB4.out.mono (by simp; omega)).trans (hb5.mono (by omega))))
    clear hb5
    go_wp2
    go_ret
    exact ⟨rfl, HB5.out⟩

set_option maxRecDepth 100000 in
theorem lifted (os : Os) (started : os.Started) (H : Type) (enc : TypeId × Value → H) :
    ReturnsInHanded {} Try.checked os 4 .any (Rows.sessionReadySpec.pre6 enc Try.prog Try.f4 Rows.sessionReadyRow.domain false) (Rows.sessionReadySpec.post enc Try.prog Try.f4 false true false false) := by
  refine returnsInHanded_of_change_sized (C := Try.checked) own started (by kernel_rfl) Try.func4
    (ChangeSpec.witness6 (enc := enc) (C := Try.checked) false ⟨#[], #[.slice none 0 0, .int .i64 0, .agg #[.int .i64 0, .int .i64 0, .int .i64 0, .int .i64 0, .int .i64 0, .int .i64 0, .string ByteArray.empty, .string ByteArray.empty, .int .i64 0]], []⟩ 8 (by kernel_rfl) (by kernel_rfl) (by kernel_rfl) (by kernel_rfl)) ?_
  intro W base args ds gs before hval0 hW hcnd hsz _
  have hval : ∀ (j : Nat) t v, Try.f4.params[j]? = some t → args[j]? = some v → Value.okWide Try.prog W .any base t v := hval0
  have hW' := hW
  obtain ⟨p, q, hA0, hV, rfl, hfz, hnd⟩ := hW
  have hA : DataW.TrodAll enc Try.prog W 0 (fun _ => true) true Try.f4.params.toList args.toList ds p := hA0
  rw [Try.params4] at hA hval
  obtain ⟨v0, vs0, d0, ds0, p0, q0, hargs, rfl, rfl, h0, r0⟩ := trodAll_cons hA
  obtain ⟨v1, vs1, d1, ds1, p1, q1, rfl, rfl, rfl, h1, r1⟩ := trodAll_cons r0
  obtain ⟨v2, vs2, d2, ds2, p2, q2, rfl, rfl, rfl, h2, r2⟩ := trodAll_cons r1
  obtain ⟨rfl, rfl, rfl⟩ := trodAll_nil r2
  obtain rfl : args = #[v0, v1, v2] := by cases args; simp_all
  obtain ⟨rfl, rfl⟩ := trodVars_none hV
  simp only [List.append_nil] at hW'
  have lt0 : ∀ x ∈ p0, x.block < W.heap.size := fun x hx => by simpa using hW'.lt x (by simp [hx])
  have lt1 : ∀ x ∈ p1, x.block < W.heap.size := fun x hx => by simpa using hW'.lt x (by simp [hx])
  have lt2 : ∀ x ∈ p2, x.block < W.heap.size := fun x hx => by simpa using hW'.lt x (by simp [hx])
  have k0 := h0
  obtain ⟨ls0, H0⟩ := open_sessR h0 (okWide_slice Try.underlying22 (hval 0 22 v0 rfl rfl)) (fun n hn => by
    have := List.all_eq_true.1 hsz n (DataW.weights_mem_each (j := 0) (t := 22) (d := d0) rfl rfl n hn)
    simpa using this)
  have k1 := h1
  obtain ⟨a1, rfl, rfl, rfl, w1⟩ := open_int Try.underlying3 (hval 1 3 v1 rfl rfl) h1
  have b1 : -9223372036854775808 ≤ a1 ∧ a1 ≤ 9223372036854775807 := bounds_i64 w1
  have k2 := h2
  obtain ⟨kk2, cc2, ss2, qq2, uu2, ok2, aa2, bb2, nn2, ee2, ZZ2⟩ := open_cmdV h2 (okWide_struct Try.underlying34 (hval 2 34 v2 rfl rfl)) (fun n hn => by
    have := List.all_eq_true.1 hsz n (DataW.weights_mem_each (j := 2) (t := 34) (d := d2) rfl rfl n hn)
    simpa using this)
  subst ee2
  refine (walk W v0 ls0 H0 a1 b1 kk2 cc2 ss2 qq2 uu2 ok2 aa2 bb2 nn2 ZZ2).mono fun e W' ⟨he, hg⟩ => ?_
  subst he
  exact ⟨_, rfl, _, _, _, [], p0 ++ ([] ++ (p2 ++ [])), [], hW', trodAll_mk1 (shut_bool Try.underlying4 _), (trodAll_cons_mk (Below.trod laidOut (by kernel_rfl) (of_decide_eq_true (by kernel_rfl)) k0 hg lt0) (trodAll_cons_mk (Below.trod laidOut (by kernel_rfl) (of_decide_eq_true (by kernel_rfl)) k1 hg lt1) (trodAll_cons_mk (Below.trod laidOut (by kernel_rfl) (of_decide_eq_true (by kernel_rfl)) k2 hg lt2) trodAll_mk0))), rfl, hg.frame _, fun h => by cases h⟩

theorem over : Rows.sessionReadyRow.holds Try.pinned (OpenSpec.ofChange Rows.sessionReadySpec) :=
  OpenClaim.holds_of_wide 4 Try.f4 rfl rfl rfl rfl rfl rfl rfl ⟨rfl, rfl, rfl, rfl, rfl⟩ rfl rfl rfl rfl rfl (by kernel_rfl) Try.func4 (by kernel_rfl)
    (of_decide_eq_true (by kernel_rfl)) (by unfold Func.isWrapper; first | (rw [if_pos (by decide +kernel)]; kernel_rfl) | (rw [if_neg (by decide +kernel)]; exact ⟨rfl, rfl⟩))
    (fun os started H enc _ => lifted os started H enc)

theorem proved : Rows.SessionReadySaid :=
  over
end Go.Proofs.Ytmcdbdcabiccnaf.sessionReady
namespace Go.Proofs.Ytmcdbdcabiccnaf
theorem sessionReady_holds : Rows.SessionReadySaid := sessionReady.proved
#print axioms sessionReady_holds
end Go.Proofs.Ytmcdbdcabiccnaf
