/- machine.Check answers what the document says of a state, at every argument: the law tackroomlaw.MachineChecks returns true and leaves its argument as it was; no condition. -/
import Derived.Test.YtkjahjknmfjmkafRows
import Derived.WalkKit
import Derived.ProofKit
import Derived.OpenShut
import Derived.ShutString
import Derived.Below
import Derived.SizedLaws
import Derived.Carry
import Derived.Test.YtkjahjknmfjmkafMachOpen
import Derived.Test.YtkjahjknmfjmkafRefState
namespace Go.Proofs.Ytkjahjknmfjmkaf.machineChecks
open Go.ChangeShapes Go.WideShapes Go.ChangeAt Go.RowKit
open Go.ChangeMaps (open_string shut_string)
set_option linter.unusedVariables false

theorem own : ownKnob Try.prog.godebug = none := by kernel_rfl
theorem laidOut : laidOutB Try.prog = true := by kernel_rfl

set_option maxHeartbeats 800000 in
theorem walk (w : World) (v0 : Value) (s0 : StateD) (H0 : StateR w w.heap.size v0 s0) (b0 : -9223372036854775808 ≤ s0.index ∧ s0.index ≤ 9223372036854775807) :
    Calls Try.prog 8 #[v0] w fun e w' => e = .returned (.bool true) ∧ Below w.heap.size w w' := by
  have C1 := ghid (fun (w' : World) (hb : Below w.heap.size w w') => machCheck_any v0 s0 w' w.heap.size (H0.below hb (Nat.le_refl _)) hb.size)
  have C2 := ghid (fun (w' : World) (hb : Below w.heap.size w w') => stateFault_any v0 s0 w' w.heap.size (H0.below hb (Nat.le_refl _)) hb.size)
  obtain ⟨lv, pv, sv, rfl, h1, h2, h3⟩ := H0
  obtain ⟨lo, lc, rfl⟩ := h1.slice
  obtain ⟨po, pc, rfl⟩ := h2.slice
  obtain ⟨so, sc, rfl⟩ := h3.slice
  have hb0 : Below w.heap.size w (w.alloc (.cells #[.int .i64 s0.index, .slice lo s0.locks.length lc, .slice po s0.pairs.length pc, .slice so s0.sess.length sc] 48)) := (Below.refl _ _).alloc (Nat.le_refl _) _
  have HB0 := ghid hb0
  clear hb0 h1 h2 h3
  go_enter Try.func8, Try.ntmps8
  go_wp2_with fail
  refine (C1.out _ HB0.out).mono ?_
  rintro e w1 ⟨rfl, hb1⟩
  have HB1 := ghid (HB0.out.trans (hb1.mono (by simp)))
  obtain ⟨k1, k2⟩ := gcell hb1
  clear hb1
  go_wp2_with fail
  refine (C2.out _ HB1.out).mono ?_
  rintro e w2 ⟨rfl, hb2⟩
  have HB2 := ghid (HB1.out.trans (hb2.mono HB1.out.size))
  clear hb2
  go_wp2
  go_ret
  exact ⟨rfl, HB2.out⟩

set_option maxRecDepth 100000 in
theorem lifted (os : Os) (started : os.Started) (H : Type) (enc : TypeId × Value → H) :
    ReturnsInHanded {} Try.checked os 8 .any (Rows.machineChecksSpec.pre6 enc Try.prog Try.f8 Rows.machineChecksRow.domain false) (Rows.machineChecksSpec.post enc Try.prog Try.f8 false true false false) := by
  refine returnsInHanded_of_change_sized (C := Try.checked) own started (by kernel_rfl) Try.func8
    (ChangeSpec.witness6 (enc := enc) (C := Try.checked) false ⟨#[], #[.agg #[.int .i64 0, .slice none 0 0, .slice none 0 0, .slice none 0 0]], []⟩ 8 (by kernel_rfl) (by kernel_rfl) (by kernel_rfl) (by kernel_rfl)) ?_
  intro W base args ds gs before hval0 hW hcnd hsz _
  have hval : ∀ (j : Nat) t v, Try.f8.params[j]? = some t → args[j]? = some v → Value.okWide Try.prog W .any base t v := hval0
  have hW' := hW
  obtain ⟨p, q, hA0, hV, rfl, hfz, hnd⟩ := hW
  have hA : DataW.TrodAll enc Try.prog W 0 (fun _ => true) true Try.f8.params.toList args.toList ds p := hA0
  rw [Try.params8] at hA hval
  obtain ⟨v0, vs0, d0, ds0, p0, q0, hargs, rfl, rfl, h0, r0⟩ := trodAll_cons hA
  obtain ⟨rfl, rfl, rfl⟩ := trodAll_nil r0
  obtain rfl : args = #[v0] := by cases args; simp_all
  obtain ⟨rfl, rfl⟩ := trodVars_none hV
  simp only [List.append_nil] at hW'
  have lt0 : ∀ x ∈ p0, x.block < W.heap.size := fun x hx => by simpa using hW'.lt x (by simp [hx])
  have k0 := h0
  obtain ⟨s0, H0, b0⟩ := open_stateV h0 (okWide_struct Try.underlying48 (hval 0 48 v0 rfl rfl)) (fun n hn => by
    have := List.all_eq_true.1 hsz n (DataW.weights_mem_each (j := 0) (t := 48) (d := d0) rfl rfl n hn)
    simpa using this)
  refine (walk W v0 s0 H0 b0).mono fun e W' ⟨he, hg⟩ => ?_
  subst he
  exact ⟨_, rfl, _, _, _, [], p0 ++ [], [], hW', trodAll_mk1 (shut_bool Try.underlying4 _), (trodAll_cons_mk (Below.trod laidOut (by kernel_rfl) (of_decide_eq_true (by kernel_rfl)) k0 hg lt0) trodAll_mk0), rfl, hg.frame _, fun h => by cases h⟩

theorem over : Rows.machineChecksRow.holds Try.pinned (OpenSpec.ofChange Rows.machineChecksSpec) :=
  OpenClaim.holds_of_wide 8 Try.f8 rfl rfl rfl rfl rfl rfl rfl ⟨rfl, rfl, rfl, rfl, rfl⟩ rfl rfl rfl rfl rfl (by kernel_rfl) Try.func8 (by kernel_rfl)
    (of_decide_eq_true (by kernel_rfl)) (by unfold Func.isWrapper; first | (rw [if_pos (by decide +kernel)]; kernel_rfl) | (rw [if_neg (by decide +kernel)]; exact ⟨rfl, rfl⟩))
    (fun os started H enc _ => lifted os started H enc)

theorem proved : Rows.MachineChecksSaid :=
  over
end Go.Proofs.Ytkjahjknmfjmkaf.machineChecks
namespace Go.Proofs.Ytkjahjknmfjmkaf
theorem machineChecks_holds : Rows.MachineChecksSaid := machineChecks.proved
#print axioms machineChecks_holds
end Go.Proofs.Ytkjahjknmfjmkaf
