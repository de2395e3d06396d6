/- A number has one form: what codec.ReadNumber reads, codec.Number writes back, with what stands behind it; what it refuses it answers with zero values: the law tackroomkeep.NumbersOnce returns true at every text; no condition. -/
import Derived.Test.YtaicknbnikdnmabRows
import Derived.WalkKit
import Derived.ProofKit
import Derived.OpenShut
import Derived.ShutString
import Derived.Below
import Derived.SizedLaws
import Derived.Test.YtaicknbnikdnmabCodecBack
namespace Go.Proofs.Ytaicknbnikdnmab.numbersOnce
open Go.ChangeShapes Go.WideShapes Go.ChangeAt Go.RowKit
open Go.ChangeMaps (open_string shut_string)
set_option linter.unusedVariables false      -- a walk need not use every 'w<i>' (that an integer argument fits its kind)

theorem own : ownKnob Try.prog.godebug = none := by kernel_rfl

theorem walk (a0 : ByteArray) (w0 : a0.size ≤ 140737488351232) (w : World) :
    Calls Try.prog 3 #[.string a0] w fun e w' => e = .returned (.bool true) ∧ Below w.heap.size w w' := by
  rcases number_all a0 (by unfold maxLen; omega) with h5 | h4 | ⟨hok, hf, hl, hm⟩
  · go_enter Try.func3, Try.ntmps3
    go_wp2_with fail
    refine (readNumber_err a0 5 _ h5 (.inr rfl)).mono ?_
    rintro e w1 ⟨rfl, g1⟩
    go_wp2
    go_ret
    exact ⟨rfl, g1⟩
  · go_enter Try.func3, Try.ntmps3
    go_wp2_with fail
    refine (readNumber_err a0 4 _ h4 (.inl rfl)).mono ?_
    rintro e w1 ⟨rfl, g1⟩
    go_wp2
    go_ret
    exact ⟨rfl, g1⟩
  · have HB : Hid (strOfNums (encN (dec (front a0))) ++ a0.extract (cd a0.data.toList) a0.size = a0) := front_back a0 hf hl
    have hz : cd a0.data.toList ≤ a0.size := by simpa using cd_le a0.data.toList
    have h0 := dec_nonneg (front a0)
    have hsz : (strOfNums (encN (dec (front a0)))).size + (a0.extract (cd a0.data.toList) a0.size).size ≤ 140737488351232 := by
      rw [← ByteArray.size_append, HB.out]; exact w0
    clear hf hl
    go_enter Try.func3, Try.ntmps3
    go_wp2_with fail
    refine (readNumber_ok a0 _ _ _ (by omega) hok hz).mono ?_
    rintro e w1 ⟨rfl, g1⟩
    go_wp2_with fail
    refine (number_ok (dec (front a0)) _ h0 hm).mono ?_
    rintro e w2 ⟨rfl, g2⟩
    go_wp2
    go_ret
    refine ⟨?_, g1.trans (g2.mono g1.size)⟩
    show Ending.returned (Value.bool ((strOfNums (encN (dec (front a0))) ++ a0.extract (cd a0.data.toList) a0.size).toList == a0.toList)) = _
    rw [HB.out, beq_self_eq_true]

set_option maxRecDepth 100000 in
theorem lifted (os : Os) (started : os.Started) (H : Type) (enc : TypeId × Value → H) :
    ReturnsInHanded {} Try.checked os 3 .any (Rows.numbersOnceSpec.pre6 enc Try.prog Try.f3 Rows.numbersOnceRow.domain false) (Rows.numbersOnceSpec.post enc Try.prog Try.f3 false true false false) := by
  refine returnsInHanded_of_change_sized (C := Try.checked) own started (by kernel_rfl) Try.func3
    (ChangeSpec.witness6 (enc := enc) (C := Try.checked) false ⟨#[], #[.string ByteArray.empty], []⟩ 8 (by kernel_rfl) (by kernel_rfl) (by kernel_rfl) (by kernel_rfl)) ?_
  intro W base args ds gs before hval0 hW hcnd hsz _
  have hval : ∀ (j : Nat) t v, Try.f3.params[j]? = some t → args[j]? = some v → Value.okWide Try.prog W .any base t v := hval0
  have hW' := hW
  obtain ⟨p, q, hA0, hV, rfl, hfz, hnd⟩ := hW
  have hA : DataW.TrodAll enc Try.prog W 0 (fun _ => true) true Try.f3.params.toList args.toList ds p := hA0
  rw [Try.params3] at hA hval
  obtain ⟨v0, vs0, d0, ds0, p0, q0, hargs, rfl, rfl, h0, r0⟩ := trodAll_cons hA
  obtain ⟨rfl, rfl, rfl⟩ := trodAll_nil r0
  obtain rfl : args = #[v0] := by cases args; simp_all
  obtain ⟨rfl, rfl⟩ := trodVars_none hV
  obtain ⟨a0, rfl, rfl, rfl, w0⟩ := open_string Try.underlying9 (hval 0 9 v0 rfl rfl) h0
  have z0 : a0.size ≤ 140737488351232 := by
    have := sized_string hsz (j := 0) (t := 9) rfl rfl
    simpa [reachBytes] using this
  clear hA0 hval0
  simp only [List.append_nil] at hW'
  refine (walk a0 z0 W).mono fun e W' ⟨he, hg⟩ => ?_
  subst he
  exact ⟨_, rfl, _, _, _, [], [], [], hW', trodAll_mk1 (shut_bool Try.underlying4 _), (trodAll_cons_mk (shut_string Try.underlying9 w0) trodAll_mk0), rfl, hg.frame _, fun h => by cases h⟩

theorem over : Rows.numbersOnceRow.holds Try.pinned (OpenSpec.ofChange Rows.numbersOnceSpec) :=
  OpenClaim.holds_of_wide 3 Try.f3 rfl rfl rfl rfl rfl rfl rfl ⟨rfl, rfl, rfl, rfl, rfl⟩ rfl rfl rfl rfl rfl (by kernel_rfl) Try.func3 (by kernel_rfl)
    (of_decide_eq_true (by kernel_rfl)) (by unfold Func.isWrapper; first | (rw [if_pos (by decide +kernel)]; kernel_rfl) | (rw [if_neg (by decide +kernel)]; exact ⟨rfl, rfl⟩))
    (fun os started H enc _ => lifted os started H enc)

/-- ████ THE STATEMENT ████ -/
theorem proved : Rows.NumbersOnceSaid :=
  over
end Go.Proofs.Ytaicknbnikdnmab.numbersOnce
namespace Go.Proofs.Ytaicknbnikdnmab
theorem numbersOnce_holds : Rows.NumbersOnceSaid := numbersOnce.proved
#print axioms numbersOnce_holds
end Go.Proofs.Ytaicknbnikdnmab
