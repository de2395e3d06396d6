/- lock.Who answers what the document says of who has a lock, at every argument: the law tackroomlaw.LockWho returns true and leaves its arguments as they were; no condition. -/
import Derived.Test.YtkmkocbpclkhhacRows
import Derived.WalkKit
import Derived.ProofKit
import Derived.OpenShut
import Derived.ShutString
import Derived.Below
import Derived.SizedLaws
import Derived.Carry
import Derived.Test.YtkmkocbpclkhhacLockOpen
import Derived.Test.YtkmkocbpclkhhacLockWho
namespace Go.Proofs.Ytkmkocbpclkhhac.lockWho
open Go.ChangeShapes Go.WideShapes Go.ChangeAt Go.RowKit
open Go.ChangeMaps (open_string shut_string)
set_option linter.unusedVariables false

theorem own : ownKnob Try.prog.godebug = none := by kernel_rfl
theorem laidOut : laidOutB Try.prog = true := by kernel_rfl

set_option maxRecDepth 100000 in
set_option maxHeartbeats 1600000 in
theorem walk (w : World) (v0 : Value) (ls0 : List LockD) (H0 : LocksR w w.heap.size v0 ls0) (a1 : ByteArray) (z1 : a1.size ≤ 140737488351232) :
    Calls Try.prog 4 #[v0, .string a1] w fun e w' => e = .returned (.bool true) ∧ Below w.heap.size w w' := by
  obtain ⟨h, f, ec, C1, C2⟩ : ∃ (h f ec : Int), (∀ (w' : World), Below w.heap.size w w' → Calls Try.prog 12 #[v0, .string a1] w' fun e w2 => e = .returned (.tuple #[.int .i64 h, .int .i64 f, .int .i64 ec]) ∧ Below w'.heap.size w' w2) ∧
      (∀ (w' : World), Below w.heap.size w w' → Calls Try.prog 13 #[v0, .string a1] w' fun e w2 => e = .returned (.tuple #[.int .i64 h, .int .i64 f, .int .i64 ec]) ∧ Below w'.heap.size w' w2) := by
    by_cases hr : checkL ls0 = 0
    · exact ⟨_, _, 0, fun w' hb => Who_ok v0 ls0 a1 w' w.heap.size (H0.below hb (Nat.le_refl _)) hb.size hr, fun w' hb => holderOf_ok v0 ls0 a1 w' w.heap.size (H0.below hb (Nat.le_refl _)) hb.size hr⟩
    · exact ⟨_, _, _, fun w' hb => Who_bad v0 ls0 a1 w' w.heap.size (H0.below hb (Nat.le_refl _)) hb.size hr, fun w' hb => holderOf_bad v0 ls0 a1 w' w.heap.size (H0.below hb (Nat.le_refl _)) hb.size hr⟩
  go_enter Try.func4, Try.ntmps4
  go_wp2_with fail
  refine (C1 _ (Below.refl _ _)).mono ?_
  rintro e w1 ⟨rfl, hb1⟩
  go_wp2_with fail
  refine (C2 _ hb1).mono ?_
  rintro e w2 ⟨rfl, hb2⟩
  have HB := Hid.mk' (hb1.trans (hb2.mono hb1.size))
  clear hb1 hb2 C1 C2
  go_wp2
  go_ret
  exact ⟨rfl, HB.out⟩

set_option maxRecDepth 100000 in
theorem lifted (os : Os) (started : os.Started) (H : Type) (enc : TypeId × Value → H) :
    ReturnsInHanded {} Try.checked os 4 .any (Rows.lockWhoSpec.pre6 enc Try.prog Try.f4 Rows.lockWhoRow.domain false) (Rows.lockWhoSpec.post enc Try.prog Try.f4 false true false false) := by
  refine returnsInHanded_of_change_sized (C := Try.checked) own started (by kernel_rfl) Try.func4
    (ChangeSpec.witness6 (enc := enc) (C := Try.checked) false ⟨#[], #[.slice none 0 0, .string ByteArray.empty], []⟩ 8 (by kernel_rfl) (by kernel_rfl) (by kernel_rfl) (by kernel_rfl)) ?_
  intro W base args ds gs before hval0 hW hcnd hsz _
  have hval : ∀ (j : Nat) t v, Try.f4.params[j]? = some t → args[j]? = some v → Value.okWide Try.prog W .any base t v := hval0
  have hW' := hW
  obtain ⟨p, q, hA0, hV, rfl, hfz, hnd⟩ := hW
  have hA : DataW.TrodAll enc Try.prog W 0 (fun _ => true) true Try.f4.params.toList args.toList ds p := hA0
  rw [Try.params4] at hA hval
  obtain ⟨v0, vs0, d0, ds0, p0, q0, hargs, rfl, rfl, h0, r0⟩ := trodAll_cons hA
  obtain ⟨v1, vs1, d1, ds1, p1, q1, rfl, rfl, rfl, h1, r1⟩ := trodAll_cons r0
  obtain ⟨rfl, rfl, rfl⟩ := trodAll_nil r1
  obtain rfl : args = #[v0, v1] := by cases args; simp_all
  obtain ⟨rfl, rfl⟩ := trodVars_none hV
  simp only [List.append_nil] at hW'
  have lt0 : ∀ x ∈ p0, x.block < W.heap.size := fun x hx => by simpa using hW'.lt x (by simp [hx])
  have lt1 : ∀ x ∈ p1, x.block < W.heap.size := fun x hx => by simpa using hW'.lt x (by simp [hx])
  have k0 := h0
  obtain ⟨ls0, H0⟩ := open_locksR h0 (okWide_slice Try.underlying22 (hval 0 22 v0 rfl rfl)) (fun n hn => by
    have := List.all_eq_true.1 hsz n (DataW.weights_mem_each (j := 0) (t := 22) (d := d0) rfl rfl n hn)
    simpa using this)
  have k1 := h1
  obtain ⟨a1, rfl, rfl, rfl, w1⟩ := open_string Try.underlying9 (hval 1 9 v1 rfl rfl) h1
  have z1 : a1.size ≤ 140737488351232 := by
    have := sized_string hsz (j := 1) (t := 9) rfl rfl
    simpa [reachBytes] using this
  refine (walk W v0 ls0 H0 a1 z1).mono fun e W' ⟨he, hg⟩ => ?_
  subst he
  exact ⟨_, rfl, _, _, _, [], p0 ++ ([] ++ []), [], hW', trodAll_mk1 (shut_bool Try.underlying4 _), (trodAll_cons_mk (Below.trod laidOut (by kernel_rfl) (of_decide_eq_true (by kernel_rfl)) k0 hg lt0) (trodAll_cons_mk (Below.trod laidOut (by kernel_rfl) (of_decide_eq_true (by kernel_rfl)) k1 hg lt1) trodAll_mk0)), rfl, hg.frame _, fun h => by cases h⟩

theorem over : Rows.lockWhoRow.holds Try.pinned (OpenSpec.ofChange Rows.lockWhoSpec) :=
  OpenClaim.holds_of_wide 4 Try.f4 rfl rfl rfl rfl rfl rfl rfl ⟨rfl, rfl, rfl, rfl, rfl⟩ rfl rfl rfl rfl rfl (by kernel_rfl) Try.func4 (by kernel_rfl)
    (of_decide_eq_true (by kernel_rfl)) (by unfold Func.isWrapper; first | (rw [if_pos (by decide +kernel)]; kernel_rfl) | (rw [if_neg (by decide +kernel)]; exact ⟨rfl, rfl⟩))
    (fun os started H enc _ => lifted os started H enc)

theorem proved : Rows.LockWhoSaid :=
  over
end Go.Proofs.Ytkmkocbpclkhhac.lockWho
namespace Go.Proofs.Ytkmkocbpclkhhac
theorem lockWho_holds : Rows.LockWhoSaid := lockWho.proved
#print axioms lockWho_holds
end Go.Proofs.Ytkmkocbpclkhhac
