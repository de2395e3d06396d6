/- session.Fresh answers what the document says of sessions that said nothing for long, at every argument, and leaves the sessions that were handed in: the law tackroomlaw.SessionFresh returns true and leaves its arguments as they were; no condition. -/
import Derived.Test.YtmcdbdcabiccnaeRows
import Derived.WalkKit
import Derived.ProofKit
import Derived.OpenShut
import Derived.ShutString
import Derived.Below
import Derived.SizedLaws
import Derived.Carry
import Derived.Test.YtmcdbdcabiccnaeSessOpen
import Derived.Test.YtmcdbdcabiccnaeSameSess
import Derived.Test.YtmcdbdcabiccnaeSessKept
import Derived.Test.YtmcdbdcabiccnaeSessFresh
import Derived.Test.YtmcdbdcabiccnaeRefFresh
namespace Go.Proofs.Ytmcdbdcabiccnae.sessionFresh
open Go.ChangeShapes Go.WideShapes Go.ChangeAt Go.RowKit
open Go.ChangeMaps (open_string shut_string)
set_option linter.unusedVariables false

theorem own : ownKnob Try.prog.godebug = none := by kernel_rfl
theorem laidOut : laidOutB Try.prog = true := by kernel_rfl

set_option maxRecDepth 100000 in
set_option maxHeartbeats 1600000 in
theorem walk (w : World) (v0 : Value) (ls0 : List SessD) (H0 : SessR w w.heap.size v0 ls0) (a1 : Int) (b1 : -9223372036854775808 ≤ a1 ∧ a1 ≤ 9223372036854775807) :
    Calls Try.prog 6 #[v0, .int .i64 a1] w fun e w' => e = .returned (.bool true) ∧ Below w.heap.size w w' := by
  obtain ⟨ls', ec, C1, C2⟩ : ∃ (ls' : List SessD) (ec : Int), (∀ (v : Value) (w : World) (B : Nat), SessR w B v ls0 → B ≤ w.heap.size → Calls Try.prog 15 #[v, .int .i64 a1] w fun e w' => ∃ v', e = .returned (.tuple #[v', .int .i64 ec]) ∧ SessR w' w'.heap.size v' ls' ∧ Below w.heap.size w w') ∧
      (∀ (v : Value) (w : World) (B : Nat), SessR w B v ls0 → B ≤ w.heap.size → Calls Try.prog 16 #[v, .int .i64 a1] w fun e w' => ∃ v', e = .returned (.tuple #[v', .int .i64 ec]) ∧ SessR w' w'.heap.size v' ls' ∧ Below w.heap.size w w') := by
    by_cases hr : checkS ls0 a1 = 0
    · exact ⟨freshS ls0 a1, 0, fun v w B hv hB => Fresh_ok v ls0 a1 w B hv hB hr, fun v w B hv hB => freshOf_ok v ls0 a1 w B hv hB hr⟩
    · exact ⟨[], checkS ls0 a1, fun v w B hv hB => (Fresh_bad v ls0 a1 w B hv hB hr).mono (fun e w' h => ⟨_, h.1, SessR.nil _ _, h.2⟩), fun v w B hv hB => (freshOf_bad v ls0 a1 w B hv hB hr).mono (fun e w' h => ⟨_, h.1, SessR.nil _ _, h.2⟩)⟩
  go_enter Try.func6, Try.ntmps6
  go_wp2_with fail
  refine (kept_any v0 ls0 _ _ H0 (Nat.le_refl _)).mono ?_
  rintro e w1 ⟨k1, rfl, hk1, hb1⟩
  have hl1 := H0.below hb1 (Nat.le_refl _)
  go_wp2_with fail
  refine (C1 k1 w1 _ hk1 (Nat.le_refl _)).mono ?_
  rintro e w2 ⟨v2, rfl, hr2, hb2⟩
  have hk2 := hk1.below hb2 (Nat.le_refl _)
  have hl2 := hl1.below hb2 hb1.size
  have HB2 := ghid (hb1.trans (hb2.mono hb1.size))
  have hz12 : w1.heap.size ≤ w2.heap.size := hb2.size
  have hz01 : w.heap.size ≤ w1.heap.size := hb1.size
  clear hb1 hb2 hk1 hl1 C1
  go_wp2_with fail
  refine (C2 v0 w2 _ hl2 (by omega)).mono ?_
  rintro e w3 ⟨v3, rfl, hr3, hb3⟩
  have HR2 := ghid (hr2.below hb3 (Nat.le_refl _))
  have HR3 := ghid hr3
  have HK3 := ghid (hk2.below hb3 hz12)
  have HL3 := ghid (hl2.below hb3 (by omega))
  have HB3 := ghid (HB2.out.trans (hb3.mono (by omega)))
  have hz23 : w2.heap.size ≤ w3.heap.size := hb3.size
  clear hr2 hr3 hk2 hl2 hb3 C2
  go_wp2_with fail
  refine (sameSess_eq _ _ ls' _ _ _ HR2.out HR3.out hz23 (Nat.le_refl _)).mono ?_
  rintro e w4 ⟨rfl, hb4⟩
  have hz34 : w3.heap.size ≤ w4.heap.size := hb4.size
  have HB4 := ghid hb4
  clear hb4
  go_wp2_with fail
  refine (sameSess_eq _ _ ls0 _ _ _ (HK3.out.below HB4.out (by omega)) (HL3.out.below HB4.out (by omega)) (by omega) (by omega)).mono ?_
  rintro e w5 ⟨rfl, hb5⟩
  have HB5 := ghid (HB3.out.trans ((HB4.out.mono (by omega)).trans (hb5.mono (by omega))))
  clear hb5
  go_wp2
  go_ret
  exact ⟨rfl, HB5.out⟩

set_option maxRecDepth 100000 in
theorem lifted (os : Os) (started : os.Started) (H : Type) (enc : TypeId × Value → H) :
    ReturnsInHanded {} Try.checked os 6 .any (Rows.sessionFreshSpec.pre6 enc Try.prog Try.f6 Rows.sessionFreshRow.domain false) (Rows.sessionFreshSpec.post enc Try.prog Try.f6 false true false false) := by
  refine returnsInHanded_of_change_sized (C := Try.checked) own started (by kernel_rfl) Try.func6
    (ChangeSpec.witness6 (enc := enc) (C := Try.checked) false ⟨#[], #[.slice none 0 0, .int .i64 0], []⟩ 8 (by kernel_rfl) (by kernel_rfl) (by kernel_rfl) (by kernel_rfl)) ?_
  intro W base args ds gs before hval0 hW hcnd hsz _
  have hval : ∀ (j : Nat) t v, Try.f6.params[j]? = some t → args[j]? = some v → Value.okWide Try.prog W .any base t v := hval0
  have hW' := hW
  obtain ⟨p, q, hA0, hV, rfl, hfz, hnd⟩ := hW
  have hA : DataW.TrodAll enc Try.prog W 0 (fun _ => true) true Try.f6.params.toList args.toList ds p := hA0
  rw [Try.params6] at hA hval
  obtain ⟨v0, vs0, d0, ds0, p0, q0, hargs, rfl, rfl, h0, r0⟩ := trodAll_cons hA
  obtain ⟨v1, vs1, d1, ds1, p1, q1, rfl, rfl, rfl, h1, r1⟩ := trodAll_cons r0
  obtain ⟨rfl, rfl, rfl⟩ := trodAll_nil r1
  obtain rfl : args = #[v0, v1] := by cases args; simp_all
  obtain ⟨rfl, rfl⟩ := trodVars_none hV
  simp only [List.append_nil] at hW'
  have lt0 : ∀ x ∈ p0, x.block < W.heap.size := fun x hx => by simpa using hW'.lt x (by simp [hx])
  have lt1 : ∀ x ∈ p1, x.block < W.heap.size := fun x hx => by simpa using hW'.lt x (by simp [hx])
  have k0 := h0
  obtain ⟨ls0, H0⟩ := open_sessR h0 (okWide_slice Try.underlying30 (hval 0 30 v0 rfl rfl)) (fun n hn => by
    have := List.all_eq_true.1 hsz n (DataW.weights_mem_each (j := 0) (t := 30) (d := d0) rfl rfl n hn)
    simpa using this)
  have k1 := h1
  obtain ⟨a1, rfl, rfl, rfl, w1⟩ := open_int Try.underlying3 (hval 1 3 v1 rfl rfl) h1
  have b1 : -9223372036854775808 ≤ a1 ∧ a1 ≤ 9223372036854775807 := bounds_i64 w1
  refine (walk W v0 ls0 H0 a1 b1).mono fun e W' ⟨he, hg⟩ => ?_
  subst he
  exact ⟨_, rfl, _, _, _, [], p0 ++ ([] ++ []), [], hW', trodAll_mk1 (shut_bool Try.underlying4 _), (trodAll_cons_mk (Below.trod laidOut (by kernel_rfl) (of_decide_eq_true (by kernel_rfl)) k0 hg lt0) (trodAll_cons_mk (Below.trod laidOut (by kernel_rfl) (of_decide_eq_true (by kernel_rfl)) k1 hg lt1) trodAll_mk0)), rfl, hg.frame _, fun h => by cases h⟩

theorem over : Rows.sessionFreshRow.holds Try.pinned (OpenSpec.ofChange Rows.sessionFreshSpec) :=
  OpenClaim.holds_of_wide 6 Try.f6 rfl rfl rfl rfl rfl rfl rfl ⟨rfl, rfl, rfl, rfl, rfl⟩ rfl rfl rfl rfl rfl (by kernel_rfl) Try.func6 (by kernel_rfl)
    (of_decide_eq_true (by kernel_rfl)) (by unfold Func.isWrapper; first | (rw [if_pos (by decide +kernel)]; kernel_rfl) | (rw [if_neg (by decide +kernel)]; exact ⟨rfl, rfl⟩))
    (fun os started H enc _ => lifted os started H enc)

theorem proved : Rows.SessionFreshSaid :=
  over
end Go.Proofs.Ytmcdbdcabiccnae.sessionFresh
namespace Go.Proofs.Ytmcdbdcabiccnae
theorem sessionFresh_holds : Rows.SessionFreshSaid := sessionFresh.proved
#print axioms sessionFresh_holds
end Go.Proofs.Ytmcdbdcabiccnae
