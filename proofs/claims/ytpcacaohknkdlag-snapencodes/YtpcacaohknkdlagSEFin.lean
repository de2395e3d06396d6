/- snap.Encode answers what the document says of a state's bytes, at every state: the law tackroomlaw.SnapEncodes returns true and leaves its argument as it was; no condition. -/
import Derived.Test.YtpcacaohknkdlagRows
import Derived.WalkKit
import Derived.ProofKit
import Derived.OpenShut
import Derived.ShutString
import Derived.Below
import Derived.SizedLaws
import Derived.Carry
import Derived.Test.YtpcacaohknkdlagSE04
import Derived.Test.YtpcacaohknkdlagSE28
import Derived.Test.YtpcacaohknkdlagSE32
namespace Go.Proofs.Ytpcacaohknkdlag.snapEncodes
open Go.ChangeShapes Go.WideShapes Go.ChangeAt Go.RowKit
open Go.ChangeMaps (open_string shut_string)
set_option linter.unusedVariables false

theorem own : ownKnob Try.prog.godebug = none := by kernel_rfl
theorem laidOut : laidOutB Try.prog = true := by kernel_rfl

set_option maxHeartbeats 1600000 in
theorem walk (w : World) (v0 : Value) (s0 : StateD) (H0 : StateR w w.heap.size v0 s0) (b0 : -9223372036854775808 ≤ s0.index ∧ s0.index ≤ 9223372036854775807) :
    Calls Try.prog 4 #[v0] w fun e w' => e = .returned (.bool true) ∧ Below w.heap.size w w' := by
  obtain ⟨t, r, C1, C2⟩ : ∃ (t : ByteArray) (r : Int), Hid (∀ w' : World, Below w.heap.size w w' → Calls Try.prog 8 #[v0] w' fun e w'' => e = .returned (.tuple #[.string t, .int .i64 r]) ∧ Below w'.heap.size w' w'') ∧
      Hid (∀ w' : World, Below w.heap.size w w' → Calls Try.prog 9 #[v0] w' fun e w'' => e = .returned (.tuple #[.string t, .int .i64 r]) ∧ Below w'.heap.size w' w'') := by
    by_cases hr : checkM s0 = 0
    · exact ⟨_, 0, fun w' hb => encode_ok_s v0 s0 w' w.heap.size (H0.below hb (Nat.le_refl _)) hb.size hr, fun w' hb => snapBytes_ok v0 s0 w' w.heap.size (H0.below hb (Nat.le_refl _)) hb.size hr⟩
    · exact ⟨_, _, fun w' hb => encode_bad_s v0 s0 w' w.heap.size (H0.below hb (Nat.le_refl _)) hb.size hr, fun w' hb => snapBytes_bad v0 s0 w' w.heap.size (H0.below hb (Nat.le_refl _)) hb.size hr⟩
  obtain ⟨lv, pv, sv, rfl, h1, h2, h3⟩ := H0
  obtain ⟨lo, lc, rfl⟩ := h1.slice
  obtain ⟨po, pc, rfl⟩ := h2.slice
  obtain ⟨so, sc, rfl⟩ := h3.slice
  have hb0 : Below w.heap.size w (w.alloc (.cells #[.int .i64 s0.index, .slice lo s0.locks.length lc, .slice po s0.pairs.length pc, .slice so s0.sess.length sc] 26)) := (Below.refl _ _).alloc (Nat.le_refl _) _
  have HX0 : Hid ((w.alloc (.cells #[.int .i64 s0.index, .slice lo s0.locks.length lc, .slice po s0.pairs.length pc, .slice so s0.sess.length sc] 26)).heap[w.heap.size]? = some (.cells #[.int .i64 s0.index, .slice lo s0.locks.length lc, .slice po s0.pairs.length pc, .slice so s0.sess.length sc] 26 (0, 0))) := heap_alloc_new w _
  have HB0 := ghid hb0
  clear hb0 h1 h2 h3
  go_enter Try.func4, Try.ntmps4
  go_wp2_with fail
  refine (C1.out _ HB0.out).mono ?_
  rintro e w1 ⟨rfl, hb1⟩
  have HB1 := ghid (HB0.out.trans (hb1.mono (by simp)))
  have hx1 : w1.heap[w.heap.size]? = _ := (hb1.block _ (by simp)).trans HX0.out
  obtain ⟨c0, c1, c2, c3, cf, -⟩ := state_cells hx1
  clear hb1 hx1
  go_wp2_with fail
  refine (C2.out _ HB1.out).mono ?_
  rintro e w2 ⟨rfl, hb2⟩
  have HB2 := ghid (HB1.out.trans (hb2.mono HB1.out.size))
  clear hb2
  go_wp2
  go_ret
  exact ⟨by simp, HB2.out⟩

set_option maxRecDepth 100000 in
theorem lifted (os : Os) (started : os.Started) (H : Type) (enc : TypeId × Value → H) :
    ReturnsInHanded {} Try.checked os 4 .any (Rows.snapEncodesSpec.pre6 enc Try.prog Try.f4 Rows.snapEncodesRow.domain false) (Rows.snapEncodesSpec.post enc Try.prog Try.f4 false true false false) := by
  refine returnsInHanded_of_change_sized (C := Try.checked) own started (by kernel_rfl) Try.func4
    (ChangeSpec.witness6 (enc := enc) (C := Try.checked) false ⟨#[], #[.agg #[.int .i64 0, .slice none 0 0, .slice none 0 0, .slice none 0 0]], []⟩ 8 (by kernel_rfl) (by kernel_rfl) (by kernel_rfl) (by kernel_rfl)) ?_
  intro W base args ds gs before hval0 hW hcnd hsz _
  have hval : ∀ (j : Nat) t v, Try.f4.params[j]? = some t → args[j]? = some v → Value.okWide Try.prog W .any base t v := hval0
  have hW' := hW
  obtain ⟨p, q, hA0, hV, rfl, hfz, hnd⟩ := hW
  have hA : DataW.TrodAll enc Try.prog W 0 (fun _ => true) true Try.f4.params.toList args.toList ds p := hA0
  rw [Try.params4] at hA hval
  obtain ⟨v0, vs0, d0, ds0, p0, q0, hargs, rfl, rfl, h0, r0⟩ := trodAll_cons hA
  obtain ⟨rfl, rfl, rfl⟩ := trodAll_nil r0
  obtain rfl : args = #[v0] := by cases args; simp_all
  obtain ⟨rfl, rfl⟩ := trodVars_none hV
  simp only [List.append_nil] at hW'
  have lt0 : ∀ x ∈ p0, x.block < W.heap.size := fun x hx => by simpa using hW'.lt x (by simp [hx])
  have k0 := h0
  obtain ⟨s0, H0, b0⟩ := open_stateV h0 (okWide_struct Try.underlying26 (hval 0 26 v0 rfl rfl)) (fun n hn => by
    have := List.all_eq_true.1 hsz n (DataW.weights_mem_each (j := 0) (t := 26) (d := d0) rfl rfl n hn)
    simpa using this)
  refine (walk W v0 s0 H0 b0).mono fun e W' ⟨he, hg⟩ => ?_
  subst he
  exact ⟨_, rfl, _, _, _, [], p0 ++ [], [], hW', trodAll_mk1 (shut_bool Try.underlying4 _), (trodAll_cons_mk (Below.trod laidOut (by kernel_rfl) (of_decide_eq_true (by kernel_rfl)) k0 hg lt0) trodAll_mk0), rfl, hg.frame _, fun h => by cases h⟩

theorem over : Rows.snapEncodesRow.holds Try.pinned (OpenSpec.ofChange Rows.snapEncodesSpec) :=
  OpenClaim.holds_of_wide 4 Try.f4 rfl rfl rfl rfl rfl rfl rfl ⟨rfl, rfl, rfl, rfl, rfl⟩ rfl rfl rfl rfl rfl (by kernel_rfl) Try.func4 (by kernel_rfl)
    (of_decide_eq_true (by kernel_rfl)) (by unfold Func.isWrapper; first | (rw [if_pos (by decide +kernel)]; kernel_rfl) | (rw [if_neg (by decide +kernel)]; exact ⟨rfl, rfl⟩))
    (fun os started H enc _ => lifted os started H enc)

theorem proved : Rows.SnapEncodesSaid :=
  over
end Go.Proofs.Ytpcacaohknkdlag.snapEncodes
namespace Go.Proofs.Ytpcacaohknkdlag
theorem snapEncodes_holds : Rows.SnapEncodesSaid := snapEncodes.proved
#print axioms snapEncodes_holds
end Go.Proofs.Ytpcacaohknkdlag
