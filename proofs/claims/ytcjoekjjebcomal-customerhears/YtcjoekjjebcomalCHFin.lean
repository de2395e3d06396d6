/- customer.Hear answers what the document says of hearing a mail, at every client and mail, and leaves the client that was handed in: the law tackroomlaw.CustomerHears returns true and leaves its arguments as they were; no condition. -/
import Derived.Test.YtcjoekjjebcomalRows
import Derived.WalkKit
import Derived.ProofKit
import Derived.OpenShut
import Derived.ShutString
import Derived.Below
import Derived.SizedLaws
import Derived.Carry
import Derived.Test.YtcjoekjjebcomalCH32
import Derived.Test.YtcjoekjjebcomalCH33
import Derived.Test.YtcjoekjjebcomalCH31
namespace Go.Proofs.Ytcjoekjjebcomal.customerHears
open Go.ChangeShapes Go.WideShapes Go.ChangeAt Go.RowKit
open Go.ChangeMaps (open_string shut_string)
set_option linter.unusedVariables false

theorem own : ownKnob Try.prog.godebug = none := by kernel_rfl
theorem laidOut : laidOutB Try.prog = true := by kernel_rfl

theorem walk (w : World) (v0 : Value) (r0 : CustD) (H0 : CustR w w.heap.size v0 r0) (cl1 q1 rc1 rn1 : Int) (rt1 : ByteArray) (ZM1 : FitsC cl1 ∧ FitsC q1 ∧ FitsC rc1 ∧ FitsC rn1 ∧ ShortC rt1) :
    Calls Try.prog 3 #[v0, .agg #[.int .i64 cl1, .int .i64 q1, .int .i64 rc1, .int .i64 rn1, .string rt1]] w fun e w' => e = .returned (.bool true) ∧ Below w.heap.size w w' := by
  exact customerHears_walk v0 r0 cl1 q1 rc1 rn1 rt1 w H0

set_option maxRecDepth 100000 in
theorem lifted (os : Os) (started : os.Started) (H : Type) (enc : TypeId × Value → H) :
    ReturnsInHanded {} Try.checked os 3 .any (Rows.customerHearsSpec.pre6 enc Try.prog Try.f3 Rows.customerHearsRow.domain false) (Rows.customerHearsSpec.post enc Try.prog Try.f3 false true false false) := by
  refine returnsInHanded_of_change_sized (C := Try.checked) own started (by kernel_rfl) Try.func3
    (ChangeSpec.witness6 (enc := enc) (C := Try.checked) false ⟨#[], #[.agg #[.int .i64 0, .int .i64 0, .int .i64 0, .slice none 0 0], .agg #[.int .i64 0, .int .i64 0, .int .i64 0, .int .i64 0, .string ByteArray.empty]], []⟩ 8 (by kernel_rfl) (by kernel_rfl) (by kernel_rfl) (by kernel_rfl)) ?_
  intro W base args ds gs before hval0 hW hcnd hsz _
  have hval : ∀ (j : Nat) t v, Try.f3.params[j]? = some t → args[j]? = some v → Value.okWide Try.prog W .any base t v := hval0
  have hW' := hW
  obtain ⟨p, q, hA0, hV, rfl, hfz, hnd⟩ := hW
  have hA : DataW.TrodAll enc Try.prog W 0 (fun _ => true) true Try.f3.params.toList args.toList ds p := hA0
  rw [Try.params3] at hA hval
  obtain ⟨v0, vs0, d0, ds0, p0, q0, hargs, rfl, rfl, h0, r0⟩ := trodAll_cons hA
  obtain ⟨v1, vs1, d1, ds1, p1, q1, rfl, rfl, rfl, h1, r1⟩ := trodAll_cons r0
  obtain ⟨rfl, rfl, rfl⟩ := trodAll_nil r1
  obtain rfl : args = #[v0, v1] := by cases args; simp_all
  obtain ⟨rfl, rfl⟩ := trodVars_none hV
  simp only [List.append_nil] at hW'
  have lt0 : ∀ x ∈ p0, x.block < W.heap.size := fun x hx => by simpa using hW'.lt x (by simp [hx])
  have lt1 : ∀ x ∈ p1, x.block < W.heap.size := fun x hx => by simpa using hW'.lt x (by simp [hx])
  have k0 := h0
  obtain ⟨rr0, H0⟩ := open_custV h0 (okWide_struct Try.underlying24 (hval 0 24 v0 rfl rfl)) (fun n hn => by
    have := List.all_eq_true.1 hsz n (DataW.weights_mem_each (j := 0) (t := 24) (d := d0) rfl rfl n hn)
    simpa using this)
  have k1 := h1
  obtain ⟨cl1, q1, rc1, rn1, rt1, ee1, ZM1⟩ := open_mailV h1 (okWide_struct Try.underlying29 (hval 1 29 v1 rfl rfl)) (fun n hn => by
    have := List.all_eq_true.1 hsz n (DataW.weights_mem_each (j := 1) (t := 29) (d := d1) rfl rfl n hn)
    simpa using this)
  subst ee1
  refine (walk W v0 rr0 H0 cl1 q1 rc1 rn1 rt1 ZM1).mono fun e W' ⟨he, hg⟩ => ?_
  subst he
  exact ⟨_, rfl, _, _, _, [], p0 ++ (p1 ++ []), [], hW', trodAll_mk1 (shut_bool Try.underlying4 _), (trodAll_cons_mk (Below.trod laidOut (by kernel_rfl) (of_decide_eq_true (by kernel_rfl)) k0 hg lt0) (trodAll_cons_mk (Below.trod laidOut (by kernel_rfl) (of_decide_eq_true (by kernel_rfl)) k1 hg lt1) trodAll_mk0)), rfl, hg.frame _, fun h => by cases h⟩

theorem over : Rows.customerHearsRow.holds Try.pinned (OpenSpec.ofChange Rows.customerHearsSpec) :=
  OpenClaim.holds_of_wide 3 Try.f3 rfl rfl rfl rfl rfl rfl rfl ⟨rfl, rfl, rfl, rfl, rfl⟩ rfl rfl rfl rfl rfl (by kernel_rfl) Try.func3 (by kernel_rfl)
    (of_decide_eq_true (by kernel_rfl)) (by unfold Func.isWrapper; first | (rw [if_pos (by decide +kernel)]; kernel_rfl) | (rw [if_neg (by decide +kernel)]; exact ⟨rfl, rfl⟩))
    (fun os started H enc _ => lifted os started H enc)

theorem proved : Rows.CustomerHearsSaid :=
  over
end Go.Proofs.Ytcjoekjjebcomal.customerHears
namespace Go.Proofs.Ytcjoekjjebcomal
theorem customerHears_holds : Rows.CustomerHearsSaid := customerHears.proved
#print axioms customerHears_holds
end Go.Proofs.Ytcjoekjjebcomal
