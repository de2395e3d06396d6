/- machine.Copy answers the same state, at every state: the law tackroomlaw.MachineCopies returns true and leaves its argument as it was; no condition. -/
import Derived.Test.YtkjahjknmfjmkagRows
import Derived.WalkKit
import Derived.ProofKit
import Derived.OpenShut
import Derived.ShutString
import Derived.Below
import Derived.SizedLaws
import Derived.Carry
import Derived.Test.YtkjahjknmfjmkagMachOpen
import Derived.Test.YtkjahjknmfjmkagMachCopy
import Derived.Test.YtkjahjknmfjmkagSameState
namespace Go.Proofs.Ytkjahjknmfjmkag.machineCopies
open Go.ChangeShapes Go.WideShapes Go.ChangeAt Go.RowKit
open Go.ChangeMaps (open_string shut_string)
set_option linter.unusedVariables false

theorem own : ownKnob Try.prog.godebug = none := by kernel_rfl
theorem laidOut : laidOutB Try.prog = true := by kernel_rfl

set_option maxHeartbeats 800000 in
theorem walk (w : World) (v0 : Value) (s0 : StateD) (H0 : StateR w w.heap.size v0 s0) (b0 : -9223372036854775808 ≤ s0.index ∧ s0.index ≤ 9223372036854775807) :
    Calls Try.prog 3 #[v0] w fun e w' => e = .returned (.bool true) ∧ Below w.heap.size w w' := by
  have C1 := ghid (fun (w' : World) (hb : Below w.heap.size w w') => machCopy_any v0 s0 w' w.heap.size (H0.below hb (Nat.le_refl _)) hb.size)
  have HV := ghid H0
  obtain ⟨lv, pv, sv, rfl, h1, h2, h3⟩ := H0
  obtain ⟨lo, lc, rfl⟩ := h1.slice
  obtain ⟨po, pc, rfl⟩ := h2.slice
  obtain ⟨so, sc, rfl⟩ := h3.slice
  have hb0 : Below w.heap.size w (w.alloc (.cells #[.int .i64 s0.index, .slice lo s0.locks.length lc, .slice po s0.pairs.length pc, .slice so s0.sess.length sc] 26)) := (Below.refl _ _).alloc (Nat.le_refl _) _
  have HB0 := ghid hb0
  clear hb0 h1 h2 h3
  go_enter Try.func3, Try.ntmps3
  go_wp2_with fail
  refine (C1.out _ HB0.out).mono ?_
  rintro e w1 ⟨lo1, po1, so1, ln1, lc1, pn1, pc1, sn1, sc1, rfl, hl1, hp1, hs1, hb1⟩
  have HB1 := ghid (HB0.out.trans (hb1.mono (by simp)))
  obtain ⟨k1, k2⟩ := gcell hb1
  have hz1 : w.heap.size < w1.heap.size := by have := hb1.size; simp at this; omega
  have hb2 : Below w1.heap.size w1 (w1.alloc (.cells #[.int .i64 s0.index, .slice lo1 ln1 lc1, .slice po1 pn1 pc1, .slice so1 sn1 sc1] 26)) := (Below.refl _ _).alloc (Nat.le_refl _) _
  have R1 : StateR w1 w1.heap.size (.agg #[.int .i64 s0.index, .slice lo1 ln1 lc1, .slice po1 pn1 pc1, .slice so1 sn1 sc1]) s0 := ⟨_, _, _, rfl, hl1.reads (Nat.le_refl _), hp1, hs1⟩
  have HB2 := ghid (HB1.out.trans (hb2.mono HB1.out.size))
  have C2 := ghid (sameState_eq _ _ s0 _ _ _ (R1.below hb2 (Nat.le_refl _)) (HV.out.below HB2.out (Nat.le_refl _)) hb2.size HB2.out.size)
  clear hl1 hp1 hs1 hb1 hb2 R1
  go_wp2_with fail
  refine C2.out.mono ?_
  rintro e w2 ⟨rfl, hb3⟩
  have HB3 := ghid (HB2.out.trans (hb3.mono HB2.out.size))
  clear hb3
  go_wp2
  go_ret
  exact ⟨rfl, HB3.out⟩

set_option maxRecDepth 100000 in
theorem lifted (os : Os) (started : os.Started) (H : Type) (enc : TypeId × Value → H) :
    ReturnsInHanded {} Try.checked os 3 .any (Rows.machineCopiesSpec.pre6 enc Try.prog Try.f3 Rows.machineCopiesRow.domain false) (Rows.machineCopiesSpec.post enc Try.prog Try.f3 false true false false) := by
  refine returnsInHanded_of_change_sized (C := Try.checked) own started (by kernel_rfl) Try.func3
    (ChangeSpec.witness6 (enc := enc) (C := Try.checked) false ⟨#[], #[.agg #[.int .i64 0, .slice none 0 0, .slice none 0 0, .slice none 0 0]], []⟩ 8 (by kernel_rfl) (by kernel_rfl) (by kernel_rfl) (by kernel_rfl)) ?_
  intro W base args ds gs before hval0 hW hcnd hsz _
  have hval : ∀ (j : Nat) t v, Try.f3.params[j]? = some t → args[j]? = some v → Value.okWide Try.prog W .any base t v := hval0
  have hW' := hW
  obtain ⟨p, q, hA0, hV, rfl, hfz, hnd⟩ := hW
  have hA : DataW.TrodAll enc Try.prog W 0 (fun _ => true) true Try.f3.params.toList args.toList ds p := hA0
  rw [Try.params3] at hA hval
  obtain ⟨v0, vs0, d0, ds0, p0, q0, hargs, rfl, rfl, h0, r0⟩ := trodAll_cons hA
  obtain ⟨rfl, rfl, rfl⟩ := trodAll_nil r0
  obtain rfl : args = #[v0] := by cases args; simp_all
  obtain ⟨rfl, rfl⟩ := trodVars_none hV
  simp only [List.append_nil] at hW'
  have lt0 : ∀ x ∈ p0, x.block < W.heap.size := fun x hx => by simpa using hW'.lt x (by simp [hx])
  have k0 := h0
  obtain ⟨s0, H0, b0⟩ := open_stateV h0 (okWide_struct Try.underlying26 (hval 0 26 v0 rfl rfl)) (fun n hn => by
    have := List.all_eq_true.1 hsz n (DataW.weights_mem_each (j := 0) (t := 26) (d := d0) rfl rfl n hn)
    simpa using this)
  refine (walk W v0 s0 H0 b0).mono fun e W' ⟨he, hg⟩ => ?_
  subst he
  exact ⟨_, rfl, _, _, _, [], p0 ++ [], [], hW', trodAll_mk1 (shut_bool Try.underlying4 _), (trodAll_cons_mk (Below.trod laidOut (by kernel_rfl) (of_decide_eq_true (by kernel_rfl)) k0 hg lt0) trodAll_mk0), rfl, hg.frame _, fun h => by cases h⟩

theorem over : Rows.machineCopiesRow.holds Try.pinned (OpenSpec.ofChange Rows.machineCopiesSpec) :=
  OpenClaim.holds_of_wide 3 Try.f3 rfl rfl rfl rfl rfl rfl rfl ⟨rfl, rfl, rfl, rfl, rfl⟩ rfl rfl rfl rfl rfl (by kernel_rfl) Try.func3 (by kernel_rfl)
    (of_decide_eq_true (by kernel_rfl)) (by unfold Func.isWrapper; first | (rw [if_pos (by decide +kernel)]; kernel_rfl) | (rw [if_neg (by decide +kernel)]; exact ⟨rfl, rfl⟩))
    (fun os started H enc _ => lifted os started H enc)

theorem proved : Rows.MachineCopiesSaid :=
  over
end Go.Proofs.Ytkjahjknmfjmkag.machineCopies
namespace Go.Proofs.Ytkjahjknmfjmkag
theorem machineCopies_holds : Rows.MachineCopiesSaid := machineCopies.proved
#print axioms machineCopies_holds
end Go.Proofs.Ytkjahjknmfjmkag
