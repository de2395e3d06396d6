/- A number is read as it was written and what stands behind it is left, a text likewise, and a number that is cut short is refused: the law tackroomkeep.NumbersBack returns true at every number and text; no condition. -/
import Derived.Test.YtaicknbnikdnmaaRows
import Derived.WalkKit
import Derived.ProofKit
import Derived.OpenShut
import Derived.ShutString
import Derived.Below
import Derived.SizedLaws
import Derived.Test.YtaicknbnikdnmaaCodecForm
import Derived.Test.YtaicknbnikdnmaaCodecText
import Derived.Test.YtaicknbnikdnmaaCodecTextBack
import Derived.Test.YtaicknbnikdnmaaKeepPicked
namespace Go.Proofs.Ytaicknbnikdnmaa.numbersBack
open Go.ChangeShapes Go.WideShapes Go.ChangeAt Go.RowKit
open Go.ChangeMaps (open_string shut_string)
set_option linter.unusedVariables false      -- a walk need not use every 'w<i>' (that an integer argument fits its kind)

theorem own : ownKnob Try.prog.godebug = none := by kernel_rfl

theorem walk (a0 : Int) (a1 : ByteArray) (w0 : (Lit.int .i64 a0).wf = true) (w1 : a1.size ≤ 140737488351232) (w : World) :
    Calls Try.prog 8 #[.int .i64 a0, .string a1] w fun e w' => e = .returned (.bool true) ∧ Below w.heap.size w w' := by
  obtain ⟨b1, b2⟩ := bounds_i64 w0
  obtain ⟨k0, k1⟩ := pickZ_bd a0 1099511627776 (by omega)
  have hA := strOfNums_size (encN (pickZ a0 1099511627776))
  have hL := encN_length (pickZ a0 1099511627776)
  have hA0 := hA
  generalize hk : pickZ a0 1099511627776 = k at *
  have Hk : Hid (pickZ a0 1099511627776 = k) := hk
  clear hk
  have hsum : (strOfNums (encN k)).size + a1.size ≤ 140737488351238 := by omega
  have HA : Hid ((strOfNums (encN k)).size = (encN k).length) := hA
  have hA6 : (strOfNums (encN k)).size ≤ 6 := by omega
  have hA1 : 1 ≤ (strOfNums (encN k)).size := by omega
  clear hA
  have hS : (strOfNums (encN k) ++ a1).size ≤ 140737488351238 := by rw [ByteArray.size_append]; exact hsum
  have hn1 := numOk_enc k a1 k0 (by omega) (by unfold maxLen; omega)
  have HR : Hid ((strOfNums (encN k) ++ a1).extract (encN k).length (strOfNums (encN k) ++ a1).size = a1) := by
    exact tail_of (strOfNums (encN k)) a1 _ hA0.symm
  have hle1 : (encN k).length ≤ (strOfNums (encN k) ++ a1).size := by rw [ByteArray.size_append]; omega
  have hcut : NumErr ((strOfNums (encN k)).extract 0 ((max ((strOfNums (encN k)).size : Int) 1).toNat - 1)) 5 := by
    refine numErr_cut k ((encN k).length - 1) k0 (by omega) (by omega) _ ?_
    rw [Lib.extract_data, strOfNums_data, List.drop_zero]
    have : (max ((strOfNums (encN k)).size : Int) 1).toNat - 1 - 0 = (encN k).length - 1 := by omega
    rw [this]; rfl
  clear hA0
  have hu : (a1.extract 0 (min (a1.size : Int) 300).toNat).size ≤ 300 := by rw [ByteArray.size_extract]; omega
  have hu2 : (textOut (a1.extract 0 (min (a1.size : Int) 300).toNat)).size ≤ 306 := by have := textOut_size (a1.extract 0 (min (a1.size : Int) 300).toNat); omega
  go_enter Try.func8, Try.ntmps8
  go_wp2_with fail
  refine (picked_any a0 1099511627776 _ b1 b2 (by omega) (by omega)).mono ?_
  rintro e w2 ⟨rfl, rfl⟩
  rw [Hk.out]
  go_wp2_with fail
  refine (number_ok k _ k0 (by omega)).mono ?_
  rintro e w3 ⟨rfl, g3⟩
  go_wp2_with fail
  refine (readNumber_ok (strOfNums (encN k) ++ a1) k (encN k).length _ (by omega) hn1 hle1).mono ?_
  rintro e w4 ⟨rfl, g4⟩
  rw [HR.out]
  go_wp2_with fail
  refine (text_ok (a1.extract 0 (min (a1.size : Int) 300).toNat) _ (by omega)).mono ?_
  rintro e w5 ⟨rfl, g5⟩
  go_wp2_with fail
  refine (readText_text (a1.extract 0 (min (a1.size : Int) 300).toNat) _ _ (by omega) (by decide)).mono ?_
  rintro e w6 ⟨rfl, g6⟩
  go_wp2_with fail
  refine (readNumber_err _ 5 _ hcut (.inr rfl)).mono ?_
  rintro e w7 ⟨rfl, g7⟩
  go_wp2
  go_ret
  refine ⟨rfl, ?_⟩
  have q4 := g3.trans (g4.mono g3.size)
  have q5 := q4.trans (g5.mono q4.size)
  have q6 := q5.trans (g6.mono q5.size)
  exact q6.trans (g7.mono q6.size)

set_option maxRecDepth 100000 in
theorem lifted (os : Os) (started : os.Started) (H : Type) (enc : TypeId × Value → H) :
    ReturnsInHanded {} Try.checked os 8 .any (Rows.numbersBackSpec.pre6 enc Try.prog Try.f8 Rows.numbersBackRow.domain false) (Rows.numbersBackSpec.post enc Try.prog Try.f8 false true false false) := by
  refine returnsInHanded_of_change_sized (C := Try.checked) own started (by kernel_rfl) Try.func8
    (ChangeSpec.witness6 (enc := enc) (C := Try.checked) false ⟨#[], #[.int .i64 0, .string ByteArray.empty], []⟩ 8 (by kernel_rfl) (by kernel_rfl) (by kernel_rfl) (by kernel_rfl)) ?_
  intro W base args ds gs before hval0 hW hcnd hsz _
  have hval : ∀ (j : Nat) t v, Try.f8.params[j]? = some t → args[j]? = some v → Value.okWide Try.prog W .any base t v := hval0
  have hW' := hW
  obtain ⟨p, q, hA0, hV, rfl, hfz, hnd⟩ := hW
  have hA : DataW.TrodAll enc Try.prog W 0 (fun _ => true) true Try.f8.params.toList args.toList ds p := hA0
  rw [Try.params8] at hA hval
  obtain ⟨v0, vs0, d0, ds0, p0, q0, hargs, rfl, rfl, h0, r0⟩ := trodAll_cons hA
  obtain ⟨v1, vs1, d1, ds1, p1, q1, rfl, rfl, rfl, h1, r1⟩ := trodAll_cons r0
  obtain ⟨rfl, rfl, rfl⟩ := trodAll_nil r1
  obtain rfl : args = #[v0, v1] := by cases args; simp_all
  obtain ⟨rfl, rfl⟩ := trodVars_none hV
  obtain ⟨a0, rfl, rfl, rfl, w0⟩ := open_int Try.underlying3 (hval 0 3 v0 rfl rfl) h0
  obtain ⟨a1, rfl, rfl, rfl, w1⟩ := open_string Try.underlying9 (hval 1 9 v1 rfl rfl) h1
  have z1 : a1.size ≤ 140737488351232 := by
    have := sized_string hsz (j := 1) (t := 9) rfl rfl
    simpa [reachBytes] using this
  clear hA0 hval0
  simp only [List.append_nil] at hW'
  refine (walk a0 a1 w0 z1 W).mono fun e W' ⟨he, hg⟩ => ?_
  subst he
  exact ⟨_, rfl, _, _, _, [], [], [], hW', trodAll_mk1 (shut_bool Try.underlying4 _), (trodAll_cons_mk (shut_int Try.underlying3 w0) (trodAll_cons_mk (shut_string Try.underlying9 w1) trodAll_mk0)), rfl, hg.frame _, fun h => by cases h⟩

theorem over : Rows.numbersBackRow.holds Try.pinned (OpenSpec.ofChange Rows.numbersBackSpec) :=
  OpenClaim.holds_of_wide 8 Try.f8 rfl rfl rfl rfl rfl rfl rfl ⟨rfl, rfl, rfl, rfl, rfl⟩ rfl rfl rfl rfl rfl (by kernel_rfl) Try.func8 (by kernel_rfl)
    (of_decide_eq_true (by kernel_rfl)) (by unfold Func.isWrapper; first | (rw [if_pos (by decide +kernel)]; kernel_rfl) | (rw [if_neg (by decide +kernel)]; exact ⟨rfl, rfl⟩))
    (fun os started H enc _ => lifted os started H enc)

/-- ████ THE STATEMENT ████ -/
theorem proved : Rows.NumbersBackSaid :=
  over
end Go.Proofs.Ytaicknbnikdnmaa.numbersBack
namespace Go.Proofs.Ytaicknbnikdnmaa
theorem numbersBack_holds : Rows.NumbersBackSaid := numbersBack.proved
#print axioms numbersBack_holds
end Go.Proofs.Ytaicknbnikdnmaa
