/- command.Encode answers what the document says of a command's bytes, at every command: the law tackroomlaw.CommandEncodes returns true and leaves its argument as it was; no condition. -/
import Derived.Test.YtnclipjepefpjadRows
import Derived.WalkKit
import Derived.ProofKit
import Derived.OpenShut
import Derived.ShutString
import Derived.Below
import Derived.SizedLaws
import Derived.Carry
import Derived.Test.YtnclipjepefpjadCmdOpen
import Derived.Test.YtnclipjepefpjadRefEncode
namespace Go.Proofs.Ytnclipjepefpjad.commandEncodes
open Go.ChangeShapes Go.WideShapes Go.ChangeAt Go.RowKit
open Go.ChangeMaps (open_string shut_string)
set_option linter.unusedVariables false

theorem own : ownKnob Try.prog.godebug = none := by kernel_rfl
theorem laidOut : laidOutB Try.prog = true := by kernel_rfl

set_option maxHeartbeats 1600000 in
theorem walk (w : World) (kk0 cc0 ss0 qq0 uu0 ok0 : Int) (aa0 bb0 : ByteArray) (nn0 : Int) (ZZ0 : FitsC kk0 ∧ FitsC cc0 ∧ FitsC ss0 ∧ FitsC qq0 ∧ FitsC uu0 ∧ FitsC ok0 ∧ ShortC aa0 ∧ ShortC bb0 ∧ FitsC nn0) :
    Calls Try.prog 7 #[.agg #[.int .i64 kk0, .int .i64 cc0, .int .i64 ss0, .int .i64 qq0, .int .i64 uu0, .int .i64 ok0, .string aa0, .string bb0, .int .i64 nn0]] w fun e w' => e = .returned (.bool true) ∧ Below w.heap.size w w' := by
  obtain ⟨hk, hc, hs, hq, hu, ho, ha, hb, hn⟩ := ZZ0
  obtain ⟨t, r, C1, C2⟩ : ∃ (t : ByteArray) (r : Int), Hid (∀ w : World, Calls Try.prog 17 #[.agg #[.int .i64 kk0, .int .i64 cc0, .int .i64 ss0, .int .i64 qq0, .int .i64 uu0, .int .i64 ok0, .string aa0, .string bb0, .int .i64 nn0]] w fun e w' => e = .returned (.tuple #[.string t, .int .i64 r]) ∧ Below w.heap.size w w') ∧
      Hid (∀ w : World, Calls Try.prog 18 #[.agg #[.int .i64 kk0, .int .i64 cc0, .int .i64 ss0, .int .i64 qq0, .int .i64 uu0, .int .i64 ok0, .string aa0, .string bb0, .int .i64 nn0]] w fun e w' => e = .returned (.tuple #[.string t, .int .i64 r]) ∧ Below w.heap.size w w') := by
    by_cases hr : cmdE kk0 cc0 ss0 qq0 uu0 ok0 aa0 bb0 nn0 = 0
    · by_cases h2 : kk0 = 2
      · subst h2
        exact ⟨_, 0, fun w => encode_call cc0 ss0 qq0 uu0 ok0 aa0 bb0 nn0 w hq ha hb hr, fun w => cmdBytes_call cc0 ss0 qq0 uu0 ok0 aa0 bb0 nn0 w hq ha hb hr⟩
      · exact ⟨_, 0, fun w => encode_rest kk0 cc0 ss0 qq0 uu0 ok0 aa0 bb0 nn0 w hq ha hb hr h2, fun w => cmdBytes_rest kk0 cc0 ss0 qq0 uu0 ok0 aa0 bb0 nn0 w hq ha hb hr h2⟩
    · exact ⟨_, _, fun w => encode_bad kk0 cc0 ss0 qq0 uu0 ok0 aa0 bb0 nn0 w hq ha hb hr, fun w => cmdBytes_bad kk0 cc0 ss0 qq0 uu0 ok0 aa0 bb0 nn0 w hq ha hb hr⟩
  have HB := chid (cbox w kk0 cc0 ss0 qq0 uu0 ok0 aa0 bb0 nn0)
  clear ha hb hk hn hc hs hq hu ho
  go_enter Try.func7, Try.ntmps7
  go_wp2_with fail
  refine (C1.out _).mono ?_
  rintro e w1 ⟨rfl, hb1⟩
  have HB1 := chid (HB.out.trans (hb1.mono (by simp)))
  have g1 : w1.heap[w.heap.size]? = some (.cells #[.int .i64 kk0, .int .i64 cc0, .int .i64 ss0, .int .i64 qq0, .int .i64 uu0, .int .i64 ok0, .string aa0, .string bb0, .int .i64 nn0] 38 (0, 0)) := (hb1.block _ (by simp)).trans (heap_alloc_new w _)
  have s0 : w1.cell? ⟨w.heap.size, 0, none⟩ = some (.int .i64 kk0) := cell_of_row w1 w.heap.size 0 _ _ _ g1
  have s1 : w1.cell? ⟨w.heap.size, 1, none⟩ = some (.int .i64 cc0) := cell_of_row w1 w.heap.size 1 _ _ _ g1
  have s2 : w1.cell? ⟨w.heap.size, 2, none⟩ = some (.int .i64 ss0) := cell_of_row w1 w.heap.size 2 _ _ _ g1
  have s3 : w1.cell? ⟨w.heap.size, 3, none⟩ = some (.int .i64 qq0) := cell_of_row w1 w.heap.size 3 _ _ _ g1
  have s4 : w1.cell? ⟨w.heap.size, 4, none⟩ = some (.int .i64 uu0) := cell_of_row w1 w.heap.size 4 _ _ _ g1
  have s5 : w1.cell? ⟨w.heap.size, 5, none⟩ = some (.int .i64 ok0) := cell_of_row w1 w.heap.size 5 _ _ _ g1
  have s6 : w1.cell? ⟨w.heap.size, 6, none⟩ = some (.string aa0) := cell_of_row w1 w.heap.size 6 _ _ _ g1
  have s7 : w1.cell? ⟨w.heap.size, 7, none⟩ = some (.string bb0) := cell_of_row w1 w.heap.size 7 _ _ _ g1
  have s8 : w1.cell? ⟨w.heap.size, 8, none⟩ = some (.int .i64 nn0) := cell_of_row w1 w.heap.size 8 _ _ _ g1
  clear hb1 g1
  go_wp2_with fail
  refine (C2.out _).mono ?_
  rintro e w2 ⟨rfl, hb2⟩
  have HB2 := chid (HB1.out.trans (hb2.mono HB1.out.size))
  clear hb2
  go_wp2
  go_ret
  exact ⟨by simp, HB2.out⟩

set_option maxRecDepth 100000 in
theorem lifted (os : Os) (started : os.Started) (H : Type) (enc : TypeId × Value → H) :
    ReturnsInHanded {} Try.checked os 7 .any (Rows.commandEncodesSpec.pre6 enc Try.prog Try.f7 Rows.commandEncodesRow.domain false) (Rows.commandEncodesSpec.post enc Try.prog Try.f7 false true false false) := by
  refine returnsInHanded_of_change_sized (C := Try.checked) own started (by kernel_rfl) Try.func7
    (ChangeSpec.witness6 (enc := enc) (C := Try.checked) false ⟨#[], #[.agg #[.int .i64 0, .int .i64 0, .int .i64 0, .int .i64 0, .int .i64 0, .int .i64 0, .string ByteArray.empty, .string ByteArray.empty, .int .i64 0]], []⟩ 8 (by kernel_rfl) (by kernel_rfl) (by kernel_rfl) (by kernel_rfl)) ?_
  intro W base args ds gs before hval0 hW hcnd hsz _
  have hval : ∀ (j : Nat) t v, Try.f7.params[j]? = some t → args[j]? = some v → Value.okWide Try.prog W .any base t v := hval0
  have hW' := hW
  obtain ⟨p, q, hA0, hV, rfl, hfz, hnd⟩ := hW
  have hA : DataW.TrodAll enc Try.prog W 0 (fun _ => true) true Try.f7.params.toList args.toList ds p := hA0
  rw [Try.params7] at hA hval
  obtain ⟨v0, vs0, d0, ds0, p0, q0, hargs, rfl, rfl, h0, r0⟩ := trodAll_cons hA
  obtain ⟨rfl, rfl, rfl⟩ := trodAll_nil r0
  obtain rfl : args = #[v0] := by cases args; simp_all
  obtain ⟨rfl, rfl⟩ := trodVars_none hV
  simp only [List.append_nil] at hW'
  have lt0 : ∀ x ∈ p0, x.block < W.heap.size := fun x hx => by simpa using hW'.lt x (by simp [hx])
  have k0 := h0
  obtain ⟨kk0, cc0, ss0, qq0, uu0, ok0, aa0, bb0, nn0, ee0, ZZ0⟩ := open_cmdV h0 (okWide_struct Try.underlying38 (hval 0 38 v0 rfl rfl)) (fun n hn => by
    have := List.all_eq_true.1 hsz n (DataW.weights_mem_each (j := 0) (t := 38) (d := d0) rfl rfl n hn)
    simpa using this)
  subst ee0
  refine (walk W kk0 cc0 ss0 qq0 uu0 ok0 aa0 bb0 nn0 ZZ0).mono fun e W' ⟨he, hg⟩ => ?_
  subst he
  exact ⟨_, rfl, _, _, _, [], p0 ++ [], [], hW', trodAll_mk1 (shut_bool Try.underlying4 _), (trodAll_cons_mk (Below.trod laidOut (by kernel_rfl) (of_decide_eq_true (by kernel_rfl)) k0 hg lt0) trodAll_mk0), rfl, hg.frame _, fun h => by cases h⟩

theorem over : Rows.commandEncodesRow.holds Try.pinned (OpenSpec.ofChange Rows.commandEncodesSpec) :=
  OpenClaim.holds_of_wide 7 Try.f7 rfl rfl rfl rfl rfl rfl rfl ⟨rfl, rfl, rfl, rfl, rfl⟩ rfl rfl rfl rfl rfl (by kernel_rfl) Try.func7 (by kernel_rfl)
    (of_decide_eq_true (by kernel_rfl)) (by unfold Func.isWrapper; first | (rw [if_pos (by decide +kernel)]; kernel_rfl) | (rw [if_neg (by decide +kernel)]; exact ⟨rfl, rfl⟩))
    (fun os started H enc _ => lifted os started H enc)

theorem proved : Rows.CommandEncodesSaid :=
  over
end Go.Proofs.Ytnclipjepefpjad.commandEncodes
namespace Go.Proofs.Ytnclipjepefpjad
theorem commandEncodes_holds : Rows.CommandEncodesSaid := commandEncodes.proved
#print axioms commandEncodes_holds
end Go.Proofs.Ytnclipjepefpjad
