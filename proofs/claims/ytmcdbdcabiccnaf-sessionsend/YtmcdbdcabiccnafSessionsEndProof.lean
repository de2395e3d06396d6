/- who says nothing for long has no session any more, and not earlier: the law tackroomkeep.SessionsEnd returns true at every argument; no condition. -/
import Derived.Test.YtmcdbdcabiccnafRows
import Derived.WalkKit
import Derived.ProofKit
import Derived.OpenShut
import Derived.ShutString
import Derived.Below
import Derived.SizedLaws
import Derived.Carry
import Derived.Test.YtmcdbdcabiccnafSessJoin
import Derived.Test.YtmcdbdcabiccnafSessFresh
import Derived.Test.YtmcdbdcabiccnafSessEndMath
import Derived.Test.YtmcdbdcabiccnafKeepPicked
namespace Go.Proofs.Ytmcdbdcabiccnaf.sessionsEnd
open Go.ChangeShapes Go.WideShapes Go.ChangeAt Go.RowKit
open Go.ChangeMaps (open_string shut_string)
set_option linter.unusedVariables false

theorem own : ownKnob Try.prog.godebug = none := by kernel_rfl
theorem laidOut : laidOutB Try.prog = true := by kernel_rfl

set_option maxRecDepth 100000 in
set_option maxHeartbeats 1600000 in
theorem walk (w : World) (a0 : Int) (b0 : -9223372036854775808 ≤ a0 ∧ a0 ≤ 9223372036854775807) (a1 : Int) (b1 : -9223372036854775808 ≤ a1 ∧ a1 ≤ 9223372036854775807) :
    Calls Try.prog 7 #[.int .i64 a0, .int .i64 a1] w fun e w' => e = .returned (.bool true) ∧ Below w.heap.size w w' := by
  have hp := pickZ_bd a0 9 (by omega)
  have hp2 := pickZ_bd a1 80 (by omega)
  have CP := ghid (fun w => picked_any a0 9 w b0.1 b0.2 (by omega) (by omega))
  have CQ := ghid (fun w => picked_any a1 80 w b1.1 b1.2 (by omega) (by omega))
  obtain ⟨p, hpe⟩ : ∃ p, p = pickZ a0 9 := ⟨_, rfl⟩
  obtain ⟨q, hqe⟩ : ∃ q, q = pickZ a1 80 := ⟨_, rfl⟩
  rw [← hpe] at CP hp
  rw [← hqe] at CQ hp2
  obtain ⟨p0, p1⟩ := hp
  obtain ⟨q0, q1⟩ := hp2
  obtain ⟨j1, j2⟩ := join_first (c := 1 + p) (by omega) (by omega)
  have CJ := ghid (fun w => Join_ok (.slice none 0 0) [] 0 (1 + p) w w.heap.size (SessR.nil _ _) (Nat.le_refl _) j1)
  rw [j2] at CJ
  have HG := ghid (first_good (c := 1 + p) (k := 1 + q) (by omega) (by omega) (by omega) (by omega))
  clear hpe hqe j1 j2
  by_cases hk : 1 + q < 41
  · have HF := ghid (first_fresh (c := 1 + p) hk)
    go_enter Try.func7, Try.ntmps7
    go_wp2_with fail
    refine (CP.out _).mono ?_
    rintro e w9 ⟨rfl, hw⟩
    subst w9
    go_wp2_with fail
    refine (CJ.out _).mono ?_
    rintro e w1 ⟨v1, rfl, hr1, hb1⟩
    simp only at hr1 ⊢
    have HR1 := ghid hr1
    have HB1 := ghid hb1
    obtain ⟨vo1, vc1, rfl, -⟩ := hr1
    clear hb1 CJ
    go_wp2_with fail
    refine (CQ.out _).mono ?_
    rintro e w9 ⟨rfl, hw⟩
    subst w9
    go_wp2_with fail
    refine (Fresh_ok _ _ (1 + q) _ w1.heap.size (HR1.out.below ((Below.refl _ _).alloc (Nat.le_refl _) _) (Nat.le_refl _)) (by simp) HG.out).mono ?_
    rintro e w2 ⟨v2, rfl, hr2, hb2⟩
    rw [HF.out] at hr2
    obtain ⟨vo2, vc2, rfl, -⟩ := hr2
    have HB2 := ghid (HB1.out.trans (((Below.refl w.heap.size w1).alloc HB1.out.size _).trans (hb2.mono (by have := HB1.out.size; simp; omega))))
    clear hb2
    go_wp2
    go_ret
    exact ⟨rfl, HB2.out⟩
  · have HF := ghid (first_gone (c := 1 + p) hk)
    go_enter Try.func7, Try.ntmps7
    go_wp2_with fail
    refine (CP.out _).mono ?_
    rintro e w9 ⟨rfl, hw⟩
    subst w9
    go_wp2_with fail
    refine (CJ.out _).mono ?_
    rintro e w1 ⟨v1, rfl, hr1, hb1⟩
    simp only at hr1 ⊢
    have HR1 := ghid hr1
    have HB1 := ghid hb1
    obtain ⟨vo1, vc1, rfl, -⟩ := hr1
    clear hb1 CJ
    go_wp2_with fail
    refine (CQ.out _).mono ?_
    rintro e w9 ⟨rfl, hw⟩
    subst w9
    go_wp2_with fail
    refine (Fresh_ok _ _ (1 + q) _ w1.heap.size (HR1.out.below ((Below.refl _ _).alloc (Nat.le_refl _) _) (Nat.le_refl _)) (by simp) HG.out).mono ?_
    rintro e w2 ⟨v2, rfl, hr2, hb2⟩
    rw [HF.out] at hr2
    obtain ⟨vo2, vc2, rfl, -⟩ := hr2
    have HB2 := ghid (HB1.out.trans (((Below.refl w.heap.size w1).alloc HB1.out.size _).trans (hb2.mono (by have := HB1.out.size; simp; omega))))
    clear hb2
    go_wp2
    go_ret
    exact ⟨sret_bool (a := !decide (1 + q < 41)) (by simp; omega), HB2.out⟩

set_option maxRecDepth 100000 in
theorem lifted (os : Os) (started : os.Started) (H : Type) (enc : TypeId × Value → H) :
    ReturnsInHanded {} Try.checked os 7 .any (Rows.sessionsEndSpec.pre6 enc Try.prog Try.f7 Rows.sessionsEndRow.domain false) (Rows.sessionsEndSpec.post enc Try.prog Try.f7 false true false false) := by
  refine returnsInHanded_of_change_sized (C := Try.checked) own started (by kernel_rfl) Try.func7
    (ChangeSpec.witness6 (enc := enc) (C := Try.checked) false ⟨#[], #[.int .i64 0, .int .i64 0], []⟩ 8 (by kernel_rfl) (by kernel_rfl) (by kernel_rfl) (by kernel_rfl)) ?_
  intro W base args ds gs before hval0 hW hcnd hsz _
  have hval : ∀ (j : Nat) t v, Try.f7.params[j]? = some t → args[j]? = some v → Value.okWide Try.prog W .any base t v := hval0
  have hW' := hW
  obtain ⟨p, q, hA0, hV, rfl, hfz, hnd⟩ := hW
  have hA : DataW.TrodAll enc Try.prog W 0 (fun _ => true) true Try.f7.params.toList args.toList ds p := hA0
  rw [Try.params7] at hA hval
  obtain ⟨v0, vs0, d0, ds0, p0, q0, hargs, rfl, rfl, h0, r0⟩ := trodAll_cons hA
  obtain ⟨v1, vs1, d1, ds1, p1, q1, rfl, rfl, rfl, h1, r1⟩ := trodAll_cons r0
  obtain ⟨rfl, rfl, rfl⟩ := trodAll_nil r1
  obtain rfl : args = #[v0, v1] := by cases args; simp_all
  obtain ⟨rfl, rfl⟩ := trodVars_none hV
  simp only [List.append_nil] at hW'
  have lt0 : ∀ x ∈ p0, x.block < W.heap.size := fun x hx => by simpa using hW'.lt x (by simp [hx])
  have lt1 : ∀ x ∈ p1, x.block < W.heap.size := fun x hx => by simpa using hW'.lt x (by simp [hx])
  have k0 := h0
  obtain ⟨a0, rfl, rfl, rfl, w0⟩ := open_int Try.underlying3 (hval 0 3 v0 rfl rfl) h0
  have b0 : -9223372036854775808 ≤ a0 ∧ a0 ≤ 9223372036854775807 := bounds_i64 w0
  have k1 := h1
  obtain ⟨a1, rfl, rfl, rfl, w1⟩ := open_int Try.underlying3 (hval 1 3 v1 rfl rfl) h1
  have b1 : -9223372036854775808 ≤ a1 ∧ a1 ≤ 9223372036854775807 := bounds_i64 w1
  refine (walk W a0 b0 a1 b1).mono fun e W' ⟨he, hg⟩ => ?_
  subst he
  exact ⟨_, rfl, _, _, _, [], [] ++ ([] ++ []), [], hW', trodAll_mk1 (shut_bool Try.underlying4 _), (trodAll_cons_mk (Below.trod laidOut (by kernel_rfl) (of_decide_eq_true (by kernel_rfl)) k0 hg lt0) (trodAll_cons_mk (Below.trod laidOut (by kernel_rfl) (of_decide_eq_true (by kernel_rfl)) k1 hg lt1) trodAll_mk0)), rfl, hg.frame _, fun h => by cases h⟩

theorem over : Rows.sessionsEndRow.holds Try.pinned (OpenSpec.ofChange Rows.sessionsEndSpec) :=
  OpenClaim.holds_of_wide 7 Try.f7 rfl rfl rfl rfl rfl rfl rfl ⟨rfl, rfl, rfl, rfl, rfl⟩ rfl rfl rfl rfl rfl (by kernel_rfl) Try.func7 (by kernel_rfl)
    (of_decide_eq_true (by kernel_rfl)) (by unfold Func.isWrapper; first | (rw [if_pos (by decide +kernel)]; kernel_rfl) | (rw [if_neg (by decide +kernel)]; exact ⟨rfl, rfl⟩))
    (fun os started H enc _ => lifted os started H enc)

theorem proved : Rows.SessionsEndSaid :=
  over
end Go.Proofs.Ytmcdbdcabiccnaf.sessionsEnd
namespace Go.Proofs.Ytmcdbdcabiccnaf
theorem sessionsEnd_holds : Rows.SessionsEndSaid := sessionsEnd.proved
#print axioms sessionsEnd_holds
end Go.Proofs.Ytmcdbdcabiccnaf
