/- lock.Free answers what the document says of giving a lock up, at every argument, and leaves the locks that were handed in: the law tackroomlaw.LockFrees returns true and leaves its arguments as they were; no condition. -/
import Derived.Test.YtkmkocbpclkhhabRows
import Derived.WalkKit
import Derived.ProofKit
import Derived.OpenShut
import Derived.ShutString
import Derived.Below
import Derived.SizedLaws
import Derived.Carry
import Derived.Test.YtkmkocbpclkhhabLockOpen
import Derived.Test.YtkmkocbpclkhhabSameLocks
import Derived.Test.YtkmkocbpclkhhabRefFreed
import Derived.Test.YtkmkocbpclkhhabReplyEq
namespace Go.Proofs.Ytkmkocbpclkhhab.lockFrees
open Go.ChangeShapes Go.WideShapes Go.ChangeAt Go.RowKit
open Go.ChangeMaps (open_string shut_string)
set_option linter.unusedVariables false

theorem own : ownKnob Try.prog.godebug = none := by kernel_rfl
theorem laidOut : laidOutB Try.prog = true := by kernel_rfl

set_option maxRecDepth 100000 in
set_option maxHeartbeats 1600000 in
theorem walk (w : World) (v0 : Value) (ls0 : List LockD) (H0 : LocksR w w.heap.size v0 ls0) (a1 : ByteArray) (z1 : a1.size ≤ 140737488351232) (a2 : Int) (b2 : -9223372036854775808 ≤ a2 ∧ a2 ≤ 9223372036854775807) :
    Calls Try.prog 8 #[v0, .string a1, .int .i64 a2] w fun e w' => e = .returned (.bool true) ∧ Below w.heap.size w w' := by
  by_cases hr : refuseL ls0 a1 a2 = 0
  · have HR := Hid.mk' hr
    obtain ⟨ls', c, m, ht⟩ : ∃ ls' c m, freeL ls0 a1 a2 = (ls', c, m) := ⟨_, _, _, rfl⟩
    have HT := Hid.mk' ht
    clear hr ht
    go_enter Try.func8, Try.ntmps8
    go_wp2_with fail
    refine (locksCopy_any v0 ls0 _ _ H0 (Nat.le_refl _)).mono ?_
    rintro e w1 ⟨k1, rs, rfl, hrs, hown1, hb1⟩
    have hk1 := hown1.reads (Nat.le_refl _)
    rw [hrs] at hk1
    have hl1 := H0.below hb1 (Nat.le_refl _)
    clear hrs hown1
    have CT := Free_ok k1 ls0 a1 a2 w1 _ hk1 (Nat.le_refl _) z1 HR.out
    rw [HT.out] at CT
    simp only at CT
    have HK1 := Hid.mk' hk1
    have HL1 := Hid.mk' hl1
    have HB1 := Hid.mk' hb1
    clear hk1 hl1 hb1
    go_wp2_with fail
    refine CT.mono ?_
    rintro e w2 ⟨v2, rfl, hr2, hb2⟩
    have hb2' : Below w2.heap.size w2 (w2.alloc (.cells #[.int .i64 c, .int .i64 m, .string ⟨#[]⟩] 34)) := (Below.refl _ _).alloc (Nat.le_refl _) _
    have HR2 := Hid.mk' (hr2.below hb2' (Nat.le_refl _))
    have HK2 := Hid.mk' ((HK1.out.below hb2 (Nat.le_refl _)).below hb2' hb2.size)
    have HL2 := Hid.mk' ((HL1.out.below hb2 HB1.out.size).below hb2' (Nat.le_trans HB1.out.size hb2.size))
    have HB2 := Hid.mk' ((HB1.out.trans (hb2.mono HB1.out.size)).trans (hb2'.mono (Nat.le_trans HB1.out.size hb2.size)))
    have hz12 : w1.heap.size ≤ w2.heap.size := hb2.size
    have hz01 : w.heap.size ≤ w1.heap.size := HB1.out.size
    have CF := freedOf_ok v0 ls0 a1 a2 _ _ HL2.out HB2.out.size z1 HR.out
    rw [HT.out] at CF
    simp only [replyV] at CF ⊢
    clear hr2 hb2 hb2' CT HK1 HL1 HB1
    go_wp2_with fail
    refine CF.mono ?_
    rintro e w3 ⟨v3, rfl, hr3, hb3⟩
    have hb3' : Below w3.heap.size w3 (w3.alloc (.cells #[.int .i64 c, .int .i64 m, .string ⟨#[]⟩] 34)) := (Below.refl _ _).alloc (Nat.le_refl _) _
    have g3 : w3.heap[w2.heap.size]? = some (.cells #[.int .i64 c, .int .i64 m, .string ⟨#[]⟩] 34 (0, 0)) := (hb3.block _ (by simp)).trans (heap_alloc_new w2 _)
    have s0 : w3.cell? ⟨w2.heap.size, 0, none⟩ = some (.int .i64 c) := cell_of_row w3 w2.heap.size 0 _ _ _ g3
    have s1 : w3.cell? ⟨w2.heap.size, 1, none⟩ = some (.int .i64 m) := cell_of_row w3 w2.heap.size 1 _ _ _ g3
    have s2 : w3.cell? ⟨w2.heap.size, 2, none⟩ = some (.string ⟨#[]⟩) := cell_of_row w3 w2.heap.size 2 _ _ _ g3
    have hz23 : w2.heap.size < w3.heap.size := lt_of_block g3
    have hz23n : w2.heap.size ≠ w3.heap.size := by omega
    have HR3 := Hid.mk' (hr3.below hb3' (Nat.le_refl _))
    have HR23 := Hid.mk' ((HR2.out.below hb3 (by simp)).below hb3' (by omega))
    have HK3 := Hid.mk' ((HK2.out.below hb3 (by simp; omega)).below hb3' (by omega))
    have HL3 := Hid.mk' ((HL2.out.below hb3 (by simp; omega)).below hb3' (by omega))
    have HB3 := Hid.mk' ((HB2.out.trans (hb3.mono (by simp; omega))).trans (hb3'.mono (by omega)))
    have hq := fun w => reply_eq c m ⟨#[]⟩ w
    have hgd : Try.prog.eqGuardType Try.prog.depth 34 = false := by kernel_rfl
    clear hr3 hb3 hb3' CF g3
    go_wp2_with fail
    refine (sameLocks_eq _ _ ls' _ _ _ HR23.out HR3.out).mono ?_
    rintro e w4 ⟨rfl, n4, rfl⟩
    go_wp2_with fail
    refine (sameLocks_eq _ _ ls0 _ _ _ (HK3.out.below (drewN_below _ _ n4) (Nat.le_refl _)) (HL3.out.below (drewN_below _ _ n4) (Nat.le_refl _))).mono ?_
    rintro e w5 ⟨rfl, n5, rfl⟩
    go_wp2
    go_ret
    exact ⟨rfl, by first | exact HB3.out.trans (drewN_below _ _ _) | exact (HB3.out.trans (drewN_below _ _ _)).trans (drewN_below _ _ _)⟩
  · have HR := Hid.mk' hr
    obtain ⟨ec, hec⟩ : ∃ ec, ec = refuseL ls0 a1 a2 := ⟨_, rfl⟩
    have HEC := Hid.mk' hec
    clear hr hec
    go_enter Try.func8, Try.ntmps8
    go_wp2_with fail
    refine (locksCopy_any v0 ls0 _ _ H0 (Nat.le_refl _)).mono ?_
    rintro e w1 ⟨k1, rs, rfl, hrs, hown1, hb1⟩
    have hk1 := hown1.reads (Nat.le_refl _)
    rw [hrs] at hk1
    have hl1 := H0.below hb1 (Nat.le_refl _)
    clear hrs hown1
    have CT := Free_bad k1 ls0 a1 a2 w1 _ hk1 (Nat.le_refl _) z1 HR.out
    rw [← HEC.out] at CT
    have HK1 := Hid.mk' hk1
    have HL1 := Hid.mk' hl1
    have HB1 := Hid.mk' hb1
    clear hk1 hl1 hb1
    go_wp2_with fail
    refine CT.mono ?_
    rintro e w2 ⟨rfl, hb2⟩
    have hr2 : LocksR w2 w2.heap.size (.slice none 0 0) [] := ⟨none, 0, rfl, Nat.le_refl _, by simp, fun _ => rfl, fun h => absurd h (by simp)⟩
    have hb2' : Below w2.heap.size w2 (w2.alloc (.cells #[.int .i64 0, .int .i64 0, .string ⟨#[]⟩] 34)) := (Below.refl _ _).alloc (Nat.le_refl _) _
    have HR2 := Hid.mk' (hr2.below hb2' (Nat.le_refl _))
    have HK2 := Hid.mk' ((HK1.out.below hb2 (Nat.le_refl _)).below hb2' hb2.size)
    have HL2 := Hid.mk' ((HL1.out.below hb2 HB1.out.size).below hb2' (Nat.le_trans HB1.out.size hb2.size))
    have HB2 := Hid.mk' ((HB1.out.trans (hb2.mono HB1.out.size)).trans (hb2'.mono (Nat.le_trans HB1.out.size hb2.size)))
    have hz12 : w1.heap.size ≤ w2.heap.size := hb2.size
    have hz01 : w.heap.size ≤ w1.heap.size := HB1.out.size
    have CF := freedOf_bad v0 ls0 a1 a2 _ _ HL2.out HB2.out.size z1 HR.out
    rw [← HEC.out] at CF
    simp only [replyV] at CF ⊢
    clear hr2 hb2 hb2' CT HK1 HL1 HB1
    go_wp2_with fail
    refine CF.mono ?_
    rintro e w3 ⟨rfl, hb3⟩
    have hr3 : LocksR w3 w3.heap.size (.slice none 0 0) [] := ⟨none, 0, rfl, Nat.le_refl _, by simp, fun _ => rfl, fun h => absurd h (by simp)⟩
    have hb3' : Below w3.heap.size w3 (w3.alloc (.cells #[.int .i64 0, .int .i64 0, .string ⟨#[]⟩] 34)) := (Below.refl _ _).alloc (Nat.le_refl _) _
    have g3 : w3.heap[w2.heap.size]? = some (.cells #[.int .i64 0, .int .i64 0, .string ⟨#[]⟩] 34 (0, 0)) := (hb3.block _ (by simp)).trans (heap_alloc_new w2 _)
    have s0 : w3.cell? ⟨w2.heap.size, 0, none⟩ = some (.int .i64 0) := cell_of_row w3 w2.heap.size 0 _ _ _ g3
    have s1 : w3.cell? ⟨w2.heap.size, 1, none⟩ = some (.int .i64 0) := cell_of_row w3 w2.heap.size 1 _ _ _ g3
    have s2 : w3.cell? ⟨w2.heap.size, 2, none⟩ = some (.string ⟨#[]⟩) := cell_of_row w3 w2.heap.size 2 _ _ _ g3
    have hz23 : w2.heap.size < w3.heap.size := lt_of_block g3
    have hz23n : w2.heap.size ≠ w3.heap.size := by omega
    have HR3 := Hid.mk' (hr3.below hb3' (Nat.le_refl _))
    have HR23 := Hid.mk' ((HR2.out.below hb3 (by simp)).below hb3' (by omega))
    have HK3 := Hid.mk' ((HK2.out.below hb3 (by simp; omega)).below hb3' (by omega))
    have HL3 := Hid.mk' ((HL2.out.below hb3 (by simp; omega)).below hb3' (by omega))
    have HB3 := Hid.mk' ((HB2.out.trans (hb3.mono (by simp; omega))).trans (hb3'.mono (by omega)))
    have hq := fun w => reply_eq 0 0 ⟨#[]⟩ w
    have hgd : Try.prog.eqGuardType Try.prog.depth 34 = false := by kernel_rfl
    clear hr3 hb3 hb3' CF g3
    go_wp2_with fail
    refine (sameLocks_eq _ _ [] _ _ _ HR23.out HR3.out).mono ?_
    rintro e w4 ⟨rfl, n4, rfl⟩
    go_wp2_with fail
    refine (sameLocks_eq _ _ ls0 _ _ _ (HK3.out.below (drewN_below _ _ n4) (Nat.le_refl _)) (HL3.out.below (drewN_below _ _ n4) (Nat.le_refl _))).mono ?_
    rintro e w5 ⟨rfl, n5, rfl⟩
    go_wp2
    go_ret
    exact ⟨rfl, by first | exact HB3.out.trans (drewN_below _ _ _) | exact (HB3.out.trans (drewN_below _ _ _)).trans (drewN_below _ _ _)⟩

set_option maxRecDepth 100000 in
theorem lifted (os : Os) (started : os.Started) (H : Type) (enc : TypeId × Value → H) :
    ReturnsInHanded {} Try.checked os 8 .any (Rows.lockFreesSpec.pre6 enc Try.prog Try.f8 Rows.lockFreesRow.domain false) (Rows.lockFreesSpec.post enc Try.prog Try.f8 false true false false) := by
  refine returnsInHanded_of_change_sized (C := Try.checked) own started (by kernel_rfl) Try.func8
    (ChangeSpec.witness6 (enc := enc) (C := Try.checked) false ⟨#[], #[.slice none 0 0, .string ByteArray.empty, .int .i64 0], []⟩ 8 (by kernel_rfl) (by kernel_rfl) (by kernel_rfl) (by kernel_rfl)) ?_
  intro W base args ds gs before hval0 hW hcnd hsz _
  have hval : ∀ (j : Nat) t v, Try.f8.params[j]? = some t → args[j]? = some v → Value.okWide Try.prog W .any base t v := hval0
  have hW' := hW
  obtain ⟨p, q, hA0, hV, rfl, hfz, hnd⟩ := hW
  have hA : DataW.TrodAll enc Try.prog W 0 (fun _ => true) true Try.f8.params.toList args.toList ds p := hA0
  rw [Try.params8] at hA hval
  obtain ⟨v0, vs0, d0, ds0, p0, q0, hargs, rfl, rfl, h0, r0⟩ := trodAll_cons hA
  obtain ⟨v1, vs1, d1, ds1, p1, q1, rfl, rfl, rfl, h1, r1⟩ := trodAll_cons r0
  obtain ⟨v2, vs2, d2, ds2, p2, q2, rfl, rfl, rfl, h2, r2⟩ := trodAll_cons r1
  obtain ⟨rfl, rfl, rfl⟩ := trodAll_nil r2
  obtain rfl : args = #[v0, v1, v2] := by cases args; simp_all
  obtain ⟨rfl, rfl⟩ := trodVars_none hV
  simp only [List.append_nil] at hW'
  have lt0 : ∀ x ∈ p0, x.block < W.heap.size := fun x hx => by simpa using hW'.lt x (by simp [hx])
  have lt1 : ∀ x ∈ p1, x.block < W.heap.size := fun x hx => by simpa using hW'.lt x (by simp [hx])
  have lt2 : ∀ x ∈ p2, x.block < W.heap.size := fun x hx => by simpa using hW'.lt x (by simp [hx])
  have k0 := h0
  obtain ⟨ls0, H0⟩ := open_locksR h0 (okWide_slice Try.underlying28 (hval 0 28 v0 rfl rfl)) (fun n hn => by
    have := List.all_eq_true.1 hsz n (DataW.weights_mem_each (j := 0) (t := 28) (d := d0) rfl rfl n hn)
    simpa using this)
  have k1 := h1
  obtain ⟨a1, rfl, rfl, rfl, w1⟩ := open_string Try.underlying9 (hval 1 9 v1 rfl rfl) h1
  have z1 : a1.size ≤ 140737488351232 := by
    have := sized_string hsz (j := 1) (t := 9) rfl rfl
    simpa [reachBytes] using this
  have k2 := h2
  obtain ⟨a2, rfl, rfl, rfl, w2⟩ := open_int Try.underlying3 (hval 2 3 v2 rfl rfl) h2
  have b2 : -9223372036854775808 ≤ a2 ∧ a2 ≤ 9223372036854775807 := bounds_i64 w2
  refine (walk W v0 ls0 H0 a1 z1 a2 b2).mono fun e W' ⟨he, hg⟩ => ?_
  subst he
  exact ⟨_, rfl, _, _, _, [], p0 ++ ([] ++ ([] ++ [])), [], hW', trodAll_mk1 (shut_bool Try.underlying4 _), (trodAll_cons_mk (Below.trod laidOut (by kernel_rfl) (of_decide_eq_true (by kernel_rfl)) k0 hg lt0) (trodAll_cons_mk (Below.trod laidOut (by kernel_rfl) (of_decide_eq_true (by kernel_rfl)) k1 hg lt1) (trodAll_cons_mk (Below.trod laidOut (by kernel_rfl) (of_decide_eq_true (by kernel_rfl)) k2 hg lt2) trodAll_mk0))), rfl, hg.frame _, fun h => by cases h⟩

theorem over : Rows.lockFreesRow.holds Try.pinned (OpenSpec.ofChange Rows.lockFreesSpec) :=
  OpenClaim.holds_of_wide 8 Try.f8 rfl rfl rfl rfl rfl rfl rfl ⟨rfl, rfl, rfl, rfl, rfl⟩ rfl rfl rfl rfl rfl (by kernel_rfl) Try.func8 (by kernel_rfl)
    (of_decide_eq_true (by kernel_rfl)) (by unfold Func.isWrapper; first | (rw [if_pos (by decide +kernel)]; kernel_rfl) | (rw [if_neg (by decide +kernel)]; exact ⟨rfl, rfl⟩))
    (fun os started H enc _ => lifted os started H enc)

theorem proved : Rows.LockFreesSaid :=
  over
end Go.Proofs.Ytkmkocbpclkhhab.lockFrees
namespace Go.Proofs.Ytkmkocbpclkhhab
theorem lockFrees_holds : Rows.LockFreesSaid := lockFrees.proved
#print axioms lockFrees_holds
end Go.Proofs.Ytkmkocbpclkhhab
