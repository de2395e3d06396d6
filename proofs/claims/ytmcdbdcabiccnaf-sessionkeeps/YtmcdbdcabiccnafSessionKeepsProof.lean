/- session.Keep answers what the document says of keeping a reply, at every argument, and leaves the sessions that were handed in: the law tackroomlaw.SessionKeeps returns true and leaves its arguments as they were; no condition. -/
import Derived.Test.YtmcdbdcabiccnafRows
import Derived.WalkKit
import Derived.ProofKit
import Derived.OpenShut
import Derived.ShutString
import Derived.Below
import Derived.SizedLaws
import Derived.Carry
import Derived.Test.YtmcdbdcabiccnafSessOpen
import Derived.Test.YtmcdbdcabiccnafSameSess
import Derived.Test.YtmcdbdcabiccnafSessKept
import Derived.Test.YtmcdbdcabiccnafSessKeep
import Derived.Test.YtmcdbdcabiccnafRefKept
namespace Go.Proofs.Ytmcdbdcabiccnaf.sessionKeeps
open Go.ChangeShapes Go.WideShapes Go.ChangeAt Go.RowKit
open Go.ChangeMaps (open_string shut_string)
set_option linter.unusedVariables false

theorem own : ownKnob Try.prog.godebug = none := by kernel_rfl
theorem laidOut : laidOutB Try.prog = true := by kernel_rfl

set_option maxRecDepth 100000 in
set_option maxHeartbeats 1600000 in
theorem walk (w : World) (v0 : Value) (ls0 : List SessD) (H0 : SessR w w.heap.size v0 ls0) (a1 : Int) (b1 : -9223372036854775808 ≤ a1 ∧ a1 ≤ 9223372036854775807) (a2 : Int) (b2 : -9223372036854775808 ≤ a2 ∧ a2 ≤ 9223372036854775807) (a3 : Int) (b3 : -9223372036854775808 ≤ a3 ∧ a3 ≤ 9223372036854775807) (rc4 rn4 : Int) (rt4 : ByteArray) (ZR4 : (-9223372036854775808 ≤ rc4 ∧ rc4 ≤ 9223372036854775807) ∧ (-9223372036854775808 ≤ rn4 ∧ rn4 ≤ 9223372036854775807) ∧ rt4.size ≤ 140737488351232) :
    Calls Try.prog 5 #[v0, .int .i64 a1, .int .i64 a2, .int .i64 a3, .agg #[.int .i64 rc4, .int .i64 rn4, .string rt4]] w fun e w' => e = .returned (.bool true) ∧ Below w.heap.size w w' := by
  obtain ⟨ls', ec, C1, C2⟩ : ∃ (ls' : List SessD) (ec : Int), (∀ (v : Value) (w : World) (B : Nat), SessR w B v ls0 → B ≤ w.heap.size → Calls Try.prog 14 #[v, .int .i64 a1, .int .i64 a2, .int .i64 a3, .agg #[.int .i64 rc4, .int .i64 rn4, .string rt4]] w fun e w' => ∃ v', e = .returned (.tuple #[v', .int .i64 ec]) ∧ SessR w' w'.heap.size v' ls' ∧ Below w.heap.size w w') ∧
      (∀ (v : Value) (w : World) (B : Nat), SessR w B v ls0 → B ≤ w.heap.size → Calls Try.prog 15 #[v, .int .i64 a1, .int .i64 a2, .int .i64 a3, .agg #[.int .i64 rc4, .int .i64 rn4, .string rt4]] w fun e w' => ∃ v', e = .returned (.tuple #[v', .int .i64 ec]) ∧ SessR w' w'.heap.size v' ls' ∧ Below w.heap.size w w') :=
    ⟨_, _, fun v w B hv hB => Keep_any v ls0 a1 a2 a3 rc4 rn4 rt4 w B hv hB ZR4.2.2, fun v w B hv hB => keptOf_any v ls0 a1 a2 a3 rc4 rn4 rt4 w B hv hB ZR4.2.2⟩
  have hb0 : Below w.heap.size w (w.alloc (.cells #[.int .i64 rc4, .int .i64 rn4, .string rt4] 26)) := (Below.refl _ _).alloc (Nat.le_refl _) _
  have HB0 := ghid hb0
  clear hb0
  go_enter Try.func5, Try.ntmps5
  go_wp2_with fail
  refine (kept_any v0 ls0 _ _ (H0.below HB0.out (Nat.le_refl _)) (by simp)).mono ?_
  rintro e w1 ⟨k1, rfl, hk1, hb1⟩
  have hz01 : w.heap.size < w1.heap.size := by have := hb1.size; simp at this; omega
  have HG1 := ghid ((hb1.block w.heap.size (by simp)).trans (heap_alloc_new w _))
  have HB1 := ghid (HB0.out.trans (hb1.mono (by simp)))
  have hl1 := H0.below HB1.out (Nat.le_refl _)
  have x0 := cell_of_row w1 w.heap.size 0 _ _ _ HG1.out
  have x1 := cell_of_row w1 w.heap.size 1 _ _ _ HG1.out
  have x2 := cell_of_row w1 w.heap.size 2 _ _ _ HG1.out
  simp only [List.getElem?_toArray, List.getElem?_cons_zero, List.getElem?_cons_succ] at x0 x1 x2
  obtain ⟨ko, kc, hke, -⟩ := id hk1
  subst hke
  clear hb1
  go_wp2_with fail
  refine (C1 _ w1 _ hk1 (Nat.le_refl _)).mono ?_
  rintro e w2 ⟨v2, rfl, hr2, hb2⟩
  have hk2 := hk1.below hb2 (Nat.le_refl _)
  have hl2 := hl1.below hb2 (by omega)
  have HG2 := ghid ((hb2.block w.heap.size hz01).trans HG1.out)
  have HB2 := ghid (HB1.out.trans (hb2.mono (by omega)))
  have hz12 : w1.heap.size ≤ w2.heap.size := hb2.size
  have y0 := cell_of_row w2 w.heap.size 0 _ _ _ HG2.out
  have y1 := cell_of_row w2 w.heap.size 1 _ _ _ HG2.out
  have y2 := cell_of_row w2 w.heap.size 2 _ _ _ HG2.out
  simp only [List.getElem?_toArray, List.getElem?_cons_zero, List.getElem?_cons_succ] at y0 y1 y2
  have hz02 : w.heap.size < w2.heap.size := by omega
  have HR2a := ghid hr2
  obtain ⟨vo2, vc2, rfl, -⟩ := hr2
  clear hb2 hk1 hl1 C1 x0 x1 x2
  go_wp2_with fail
  refine (C2 _ w2 _ hl2 (by omega)).mono ?_
  rintro e w3 ⟨v3, rfl, hr3, hb3⟩
  have HR2 := ghid (HR2a.out.below hb3 (Nat.le_refl _))
  have HR3 := ghid hr3
  have HK3 := ghid (hk2.below hb3 hz12)
  have HL3 := ghid (hl2.below hb3 (by omega))
  have HB3 := ghid (HB2.out.trans (hb3.mono (by omega)))
  have hz23 : w2.heap.size ≤ w3.heap.size := hb3.size
  obtain ⟨vo3, vc3, rfl, -⟩ := hr3
  clear hk2 hl2 hb3 C2 HR2a y0 y1 y2
  go_wp2_with fail
  refine (sameSess_eq _ _ ls' _ _ _ HR2.out HR3.out hz23 (Nat.le_refl _)).mono ?_
  rintro e w4 ⟨rfl, hb4⟩
  have hz34 : w3.heap.size ≤ w4.heap.size := hb4.size
  have HB4 := ghid hb4
  clear hb4
  go_wp2_with fail
  refine (sameSess_eq _ _ ls0 _ _ _ (HK3.out.below HB4.out (by omega)) (HL3.out.below HB4.out (by omega)) (by omega) (by omega)).mono ?_
  rintro e w5 ⟨rfl, hb5⟩
  have HB5 := ghid (HB3.out.trans ((HB4.out.mono (by omega)).trans (hb5.mono (by omega))))
  clear hb5
  go_wp2
  go_ret
  exact ⟨rfl, HB5.out⟩

set_option maxRecDepth 100000 in
theorem lifted (os : Os) (started : os.Started) (H : Type) (enc : TypeId × Value → H) :
    ReturnsInHanded {} Try.checked os 5 .any (Rows.sessionKeepsSpec.pre6 enc Try.prog Try.f5 Rows.sessionKeepsRow.domain false) (Rows.sessionKeepsSpec.post enc Try.prog Try.f5 false true false false) := by
  refine returnsInHanded_of_change_sized (C := Try.checked) own started (by kernel_rfl) Try.func5
    (ChangeSpec.witness6 (enc := enc) (C := Try.checked) false ⟨#[], #[.slice none 0 0, .int .i64 0, .int .i64 0, .int .i64 0, .agg #[.int .i64 0, .int .i64 0, .string ByteArray.empty]], []⟩ 8 (by kernel_rfl) (by kernel_rfl) (by kernel_rfl) (by kernel_rfl)) ?_
  intro W base args ds gs before hval0 hW hcnd hsz _
  have hval : ∀ (j : Nat) t v, Try.f5.params[j]? = some t → args[j]? = some v → Value.okWide Try.prog W .any base t v := hval0
  have hW' := hW
  obtain ⟨p, q, hA0, hV, rfl, hfz, hnd⟩ := hW
  have hA : DataW.TrodAll enc Try.prog W 0 (fun _ => true) true Try.f5.params.toList args.toList ds p := hA0
  rw [Try.params5] at hA hval
  obtain ⟨v0, vs0, d0, ds0, p0, q0, hargs, rfl, rfl, h0, r0⟩ := trodAll_cons hA
  obtain ⟨v1, vs1, d1, ds1, p1, q1, rfl, rfl, rfl, h1, r1⟩ := trodAll_cons r0
  obtain ⟨v2, vs2, d2, ds2, p2, q2, rfl, rfl, rfl, h2, r2⟩ := trodAll_cons r1
  obtain ⟨v3, vs3, d3, ds3, p3, q3, rfl, rfl, rfl, h3, r3⟩ := trodAll_cons r2
  obtain ⟨v4, vs4, d4, ds4, p4, q4, rfl, rfl, rfl, h4, r4⟩ := trodAll_cons r3
  obtain ⟨rfl, rfl, rfl⟩ := trodAll_nil r4
  obtain rfl : args = #[v0, v1, v2, v3, v4] := by cases args; simp_all
  obtain ⟨rfl, rfl⟩ := trodVars_none hV
  simp only [List.append_nil] at hW'
  have lt0 : ∀ x ∈ p0, x.block < W.heap.size := fun x hx => by simpa using hW'.lt x (by simp [hx])
  have lt1 : ∀ x ∈ p1, x.block < W.heap.size := fun x hx => by simpa using hW'.lt x (by simp [hx])
  have lt2 : ∀ x ∈ p2, x.block < W.heap.size := fun x hx => by simpa using hW'.lt x (by simp [hx])
  have lt3 : ∀ x ∈ p3, x.block < W.heap.size := fun x hx => by simpa using hW'.lt x (by simp [hx])
  have lt4 : ∀ x ∈ p4, x.block < W.heap.size := fun x hx => by simpa using hW'.lt x (by simp [hx])
  have k0 := h0
  obtain ⟨ls0, H0⟩ := open_sessR h0 (okWide_slice Try.underlying22 (hval 0 22 v0 rfl rfl)) (fun n hn => by
    have := List.all_eq_true.1 hsz n (DataW.weights_mem_each (j := 0) (t := 22) (d := d0) rfl rfl n hn)
    simpa using this)
  have k1 := h1
  obtain ⟨a1, rfl, rfl, rfl, w1⟩ := open_int Try.underlying3 (hval 1 3 v1 rfl rfl) h1
  have b1 : -9223372036854775808 ≤ a1 ∧ a1 ≤ 9223372036854775807 := bounds_i64 w1
  have k2 := h2
  obtain ⟨a2, rfl, rfl, rfl, w2⟩ := open_int Try.underlying3 (hval 2 3 v2 rfl rfl) h2
  have b2 : -9223372036854775808 ≤ a2 ∧ a2 ≤ 9223372036854775807 := bounds_i64 w2
  have k3 := h3
  obtain ⟨a3, rfl, rfl, rfl, w3⟩ := open_int Try.underlying3 (hval 3 3 v3 rfl rfl) h3
  have b3 : -9223372036854775808 ≤ a3 ∧ a3 ≤ 9223372036854775807 := bounds_i64 w3
  have k4 := h4
  obtain ⟨rc4, rn4, rt4, ee4, ZR4⟩ := open_replyV h4 (okWide_struct Try.underlying26 (hval 4 26 v4 rfl rfl)) (fun n hn => by
    have := List.all_eq_true.1 hsz n (DataW.weights_mem_each (j := 4) (t := 26) (d := d4) rfl rfl n hn)
    simpa using this)
  subst ee4
  refine (walk W v0 ls0 H0 a1 b1 a2 b2 a3 b3 rc4 rn4 rt4 ZR4).mono fun e W' ⟨he, hg⟩ => ?_
  subst he
  exact ⟨_, rfl, _, _, _, [], p0 ++ ([] ++ ([] ++ ([] ++ (p4 ++ [])))), [], hW', trodAll_mk1 (shut_bool Try.underlying4 _), (trodAll_cons_mk (Below.trod laidOut (by kernel_rfl) (of_decide_eq_true (by kernel_rfl)) k0 hg lt0) (trodAll_cons_mk (Below.trod laidOut (by kernel_rfl) (of_decide_eq_true (by kernel_rfl)) k1 hg lt1) (trodAll_cons_mk (Below.trod laidOut (by kernel_rfl) (of_decide_eq_true (by kernel_rfl)) k2 hg lt2) (trodAll_cons_mk (Below.trod laidOut (by kernel_rfl) (of_decide_eq_true (by kernel_rfl)) k3 hg lt3) (trodAll_cons_mk (Below.trod laidOut (by kernel_rfl) (of_decide_eq_true (by kernel_rfl)) k4 hg lt4) trodAll_mk0))))), rfl, hg.frame _, fun h => by cases h⟩

theorem over : Rows.sessionKeepsRow.holds Try.pinned (OpenSpec.ofChange Rows.sessionKeepsSpec) :=
  OpenClaim.holds_of_wide 5 Try.f5 rfl rfl rfl rfl rfl rfl rfl ⟨rfl, rfl, rfl, rfl, rfl⟩ rfl rfl rfl rfl rfl (by kernel_rfl) Try.func5 (by kernel_rfl)
    (of_decide_eq_true (by kernel_rfl)) (by unfold Func.isWrapper; first | (rw [if_pos (by decide +kernel)]; kernel_rfl) | (rw [if_neg (by decide +kernel)]; exact ⟨rfl, rfl⟩))
    (fun os started H enc _ => lifted os started H enc)

theorem proved : Rows.SessionKeepsSaid :=
  over
end Go.Proofs.Ytmcdbdcabiccnaf.sessionKeeps
namespace Go.Proofs.Ytmcdbdcabiccnaf
theorem sessionKeeps_holds : Rows.SessionKeepsSaid := sessionKeeps.proved
#print axioms sessionKeeps_holds
end Go.Proofs.Ytmcdbdcabiccnaf
