/- who is given a lock is the only one that has it till it gives it up, and each time its fence is higher: the law tackroomkeep.LocksOne returns true at every argument; no condition. -/
import Derived.Test.YtkmkocbpclkhhacRows
import Derived.WalkKit
import Derived.ProofKit
import Derived.OpenShut
import Derived.ShutString
import Derived.Below
import Derived.SizedLaws
import Derived.Carry
import Derived.Test.YtkmkocbpclkhhacOneMath
namespace Go.Proofs.Ytkmkocbpclkhhac.locksOne
open Go.ChangeShapes Go.WideShapes Go.ChangeAt Go.RowKit
open Go.ChangeMaps (open_string shut_string)
set_option linter.unusedVariables false

theorem own : ownKnob Try.prog.godebug = none := by kernel_rfl
theorem laidOut : laidOutB Try.prog = true := by kernel_rfl

set_option maxRecDepth 100000 in
set_option maxHeartbeats 6400000 in
theorem walk (w : World) (v0 : Value) (ls0 : List RawD) (H0 : RawsR w w.heap.size v0 ls0) (a1 : Int) (b1 : -9223372036854775808 ≤ a1 ∧ a1 ≤ 9223372036854775807) (a2 : Int) (b2 : -9223372036854775808 ≤ a2 ∧ a2 ≤ 9223372036854775807) :
    Calls Try.prog 5 #[v0, .int .i64 a1, .int .i64 a2] w fun e w' => e = .returned (.bool true) ∧ Below w.heap.size w w' := by
  have hp := pickZ_bd a2 5 (by omega)
  have CP := fun w => picked_any a2 5 w b2.1 b2.2 (by omega) (by omega)
  have CN := fun w => keepName_any a1 w b1.1 b1.2
  have CL := keepLocks_any v0 ls0 w _ H0 (Nat.le_refl _)
  have HK : Hid (IsK (nameK a1)) := nameK_of a1
  have hns : (nameK a1).size ≤ 140737488351232 := by rcases nameK_of a1 with e | e | e <;> rw [e] <;> decide
  obtain ⟨p, hpe⟩ : ∃ p, p = pickZ a2 5 := ⟨_, rfl⟩
  obtain ⟨nm, hnme⟩ : ∃ nm, nm = nameK a1 := ⟨_, rfl⟩
  rw [← hpe] at CP hp
  rw [← hnme] at CN HK hns
  clear hpe hnme
  have hq1 : 1 ≤ 1 + p := by omega
  have hq8 : 1 + p ≤ 8 := by omega
  have hq9 : 1 + p ≤ 9 := by omega
  obtain ⟨va, vb, rfl, -⟩ := id H0
  go_enter Try.func5, Try.ntmps5
  go_wp2_with fail
  refine CL.mono ?_
  rintro e w1 ⟨v1, ls, rfl, hr1, hg1, hb1⟩
  clear CL
  go_wp2_with fail
  refine (CP _).mono ?_
  rintro e w1 ⟨rfl, rfl⟩
  go_wp2_with fail
  refine (CN _).mono ?_
  rintro e w2 ⟨rfl, hb2⟩
  have hr2 := hr1.below hb2 (Nat.le_refl _)
  have HB2 := Hid.mk' (hb1.trans (hb2.mono hb1.size))
  have hz12 : w1.heap.size ≤ w2.heap.size := hb2.size
  have HG := Hid.mk' hg1
  have TF := take_facts hg1 HK.out hq1 hq8
  have CW := Who_ok v1 ls nm w2 _ hr2 hz12 (hg1.check (by omega))
  clear hb1 hb2 hr1 hg1
  rcases TF with ⟨o, f, xs, t1, t2, t3, t4⟩ | ⟨o, f, xs, m, t1, t2, t4, hgx, y, hy1, hy2, hy3, hy4, hy5⟩
  · rw [t1] at CW
    simp only at CW
    have g1 : (o != 0) = true := by simpa using t2
    have g2 : (o != 1 + p) = true := by simpa using t3
    have HT := Hid.mk' t4
    clear t1 t2 t3 t4
    go_wp2_with fail
    refine CW.mono ?_
    rintro e w3 ⟨rfl, hb3⟩
    have hr3 := hr2.below hb3 hz12
    have hz3 := hb3.size
    have CT := Take_ok v1 ls nm (1 + p) false w3 _ hr3 (by omega) hns (HG.out.refuse (by omega) HK.out hq1 hq9)
    rw [HT.out] at CT
    simp only [replyV] at CT
    have HB3 := Hid.mk' (HB2.out.trans (hb3.mono HB2.out.size))
    clear hb3 CW hr2
    go_wp2_with fail
    refine CT.mono ?_
    rintro e w4 ⟨v4, rfl, -, hb4⟩
    have hbA : Below w4.heap.size w4 (w4.alloc (.cells #[.int .i64 10, .int .i64 o, .string ⟨#[]⟩] 37)) := (Below.refl _ _).alloc (Nat.le_refl _) _
    have hrA := (hr3.below hb4 (by omega)).below hbA (by have := hb4.size; omega)
    have HBA := Hid.mk' ((HB3.out.trans (hb4.mono HB3.out.size)).trans (hbA.mono (Nat.le_trans HB3.out.size hb4.size)))
    have CC := check_any v1 ls _ _ hrA (by have := hb4.size; simp; omega)
    rw [HG.out.check (by omega)] at CC
    have gA : (w4.alloc (.cells #[.int .i64 10, .int .i64 o, .string ⟨#[]⟩] 37)).heap[w4.heap.size]? = some (.cells #[.int .i64 10, .int .i64 o, .string ⟨#[]⟩] 37 (0, 0)) := heap_alloc_new w4 _
    have GA := Hid.mk' gA
    clear hb4 hbA hrA gA CT hr3
    go_wp2_with fail
    refine CC.mono ?_
    rintro e w5 ⟨rfl, hb5⟩
    have g5 := (hb5.block w4.heap.size (by simp)).trans GA.out
    have s0 : w5.cell? ⟨w4.heap.size, 0, none⟩ = some (.int .i64 10) := cell_of_row w5 w4.heap.size 0 _ _ _ g5
    have s1 : w5.cell? ⟨w4.heap.size, 1, none⟩ = some (.int .i64 o) := cell_of_row w5 w4.heap.size 1 _ _ _ g5
    have HF := Hid.mk' (HBA.out.trans (hb5.mono HBA.out.size))
    clear g5 hb5 CC
    go_wp2
    go_ret
    exact ⟨rfl, HF.out⟩
  · obtain ⟨k1, ⟨xs9, k2⟩, c, f2, k3, k4, k5⟩ := has_facts hy1 hy2 hy3 hy4 hq1 hq8
    rw [hy5] at k1
    obtain ⟨ys, hys⟩ : ∃ ys, ys = xs.set (atL xs nm) (giveUpX y) := ⟨_, rfl⟩
    rw [← hys] at k3 k4
    have hgy : Good 33 ys := by
      have := hgx.free nm (1 + p)
      rw [k3] at this
      exact this
    rw [t1] at CW
    simp only at CW
    have HT := Hid.mk' t4
    have K1 := Hid.mk' k1
    have K2 := Hid.mk' k2
    have K3 := Hid.mk' k3
    have K4 := Hid.mk' k4
    have HGX := Hid.mk' hgx
    have HGY := Hid.mk' hgy
    have k5b : (c != 1 + p) = true := by simpa using k5
    clear t1 t4 k1 k2 k3 k4 k5 hgx hgy hy1 hy2 hy3 hy4 hy5 hys
    rcases t2 with ⟨rfl, hfm⟩ | ⟨rfl, hfm⟩
    · have g1 : ((0 : Int) == 1 + p) = false := by simpa using (show ¬ (0 : Int) = 1 + p by omega)
      have g2 : (m == f) = false := by simpa using (show ¬ m = f by omega)
      have g3 : f ≤ m := by omega
      go_wp2_with fail
      refine CW.mono ?_
      rintro e w3 ⟨rfl, hb3⟩
      have hr3 := hr2.below hb3 hz12
      have hz3 := hb3.size
      have CT := Take_ok v1 ls nm (1 + p) false w3 _ hr3 (by omega) hns (HG.out.refuse (by omega) HK.out hq1 hq9)
      rw [HT.out] at CT
      simp only [replyV] at CT
      have HB3 := Hid.mk' (HB2.out.trans (hb3.mono HB2.out.size))
      clear hb3 CW hr2
      go_wp2_with fail
      refine CT.mono ?_
      rintro e w4 ⟨v4, rfl, hx4, hb4⟩
      have hbA : Below w4.heap.size w4 (w4.alloc (.cells #[.int .i64 0, .int .i64 m, .string ⟨#[]⟩] 37)) := (Below.refl _ _).alloc (Nat.le_refl _) _
      have hrA := (hr3.below hb4 (by omega)).below hbA (by have := hb4.size; omega)
      have hxA := hx4.below hbA (Nat.le_refl _)
      have HBA := Hid.mk' ((HB3.out.trans (hb4.mono HB3.out.size)).trans (hbA.mono (Nat.le_trans HB3.out.size hb4.size)))
      have CC := check_any v1 ls _ _ hrA (by have := hb4.size; simp; omega)
      rw [HG.out.check (by omega)] at CC
      have gA : (w4.alloc (.cells #[.int .i64 0, .int .i64 m, .string ⟨#[]⟩] 37)).heap[w4.heap.size]? = some (.cells #[.int .i64 0, .int .i64 m, .string ⟨#[]⟩] 37 (0, 0)) := heap_alloc_new w4 _
      have GA := Hid.mk' gA
      clear hb4 hbA hrA gA CT hr3 hx4
      go_wp2_with fail
      refine CC.mono ?_
      rintro e w5 ⟨rfl, hb5⟩
      have g5 := (hb5.block w4.heap.size (by simp)).trans GA.out
      have s0 : w5.cell? ⟨w4.heap.size, 0, none⟩ = some (.int .i64 0) := cell_of_row w5 w4.heap.size 0 _ _ _ g5
      have hx5 := hxA.below hb5 (by simp)
      have HB5 := Hid.mk' (HBA.out.trans (hb5.mono HBA.out.size))
      have G5 := Hid.mk' g5
      have hz5 : w4.heap.size < w5.heap.size := lt_of_block g5
      have CW2 := Who_ok v4 xs nm w5 _ hx5 (by omega) (HGX.out.check (by omega))
      rw [K1.out] at CW2
      simp only at CW2
      clear hb5 CC g5 hxA
      go_wp2_with fail
      refine CW2.mono ?_
      rintro e w6 ⟨rfl, hb6⟩
      have hx6 := hx5.below hb6 (by omega)
      have hz6 := hb6.size
      have CT2 := Take_ok v4 xs nm 9 false w6 _ hx6 (by omega) hns (HGX.out.refuse (by omega) HK.out (by omega) (by omega))
      rw [K2.out] at CT2
      simp only [replyV] at CT2
      have HB6 := Hid.mk' (HB5.out.trans (hb6.mono HB5.out.size))
      have G6 := Hid.mk' ((hb6.block w4.heap.size hz5).trans G5.out)
      clear hb6 CW2 hx5 s0
      go_wp2_with fail
      refine CT2.mono ?_
      rintro e w7 ⟨v7, rfl, -, hb7⟩
      have hb7A : Below w7.heap.size w7 (w7.alloc (.cells #[.int .i64 10, .int .i64 (1 + p), .string ⟨#[]⟩] 37)) := (Below.refl _ _).alloc (Nat.le_refl _) _
      have hx7 := (hx6.below hb7 (by omega)).below hb7A (by have := hb7.size; omega)
      have hz7 := hb7.size
      have HB7 := Hid.mk' ((HB6.out.trans (hb7.mono HB6.out.size)).trans (hb7A.mono (Nat.le_trans HB6.out.size hb7.size)))
      have G7 := Hid.mk' ((hb7A.block w4.heap.size (by omega)).trans ((hb7.block w4.heap.size (by omega)).trans G6.out))
      have gB : (w7.alloc (.cells #[.int .i64 10, .int .i64 (1 + p), .string ⟨#[]⟩] 37)).heap[w7.heap.size]? = some (.cells #[.int .i64 10, .int .i64 (1 + p), .string ⟨#[]⟩] 37 (0, 0)) := heap_alloc_new w7 _
      have GB := Hid.mk' gB
      have CF := Free_ok v4 xs nm (1 + p) _ _ hx7 (by simp; omega) hns (HGX.out.refuse (by omega) HK.out hq1 hq9)
      rw [K3.out] at CF
      simp only [replyV] at CF
      clear hb7 hb7A CT2 hx6 gB
      go_wp2_with fail
      refine CF.mono ?_
      rintro e w8 ⟨v8, rfl, hx8, hb8⟩
      have hb8A : Below w8.heap.size w8 (w8.alloc (.cells #[.int .i64 0, .int .i64 c, .string ⟨#[]⟩] 37)) := (Below.refl _ _).alloc (Nat.le_refl _) _
      have hz8 := hb8.size
      simp at hz8
      have hx8A := hx8.below hb8A (Nat.le_refl _)
      have HB8 := Hid.mk' ((HB7.out.trans (hb8.mono HB7.out.size)).trans (hb8A.mono (Nat.le_trans HB7.out.size hb8.size)))
      have G8 := Hid.mk' ((hb8A.block w4.heap.size (by omega)).trans ((hb8.block w4.heap.size (by simp; omega)).trans G7.out))
      have GB8 := Hid.mk' ((hb8A.block w7.heap.size (by omega)).trans ((hb8.block w7.heap.size (by simp)).trans GB.out))
      have gC : (w8.alloc (.cells #[.int .i64 0, .int .i64 c, .string ⟨#[]⟩] 37)).heap[w8.heap.size]? = some (.cells #[.int .i64 0, .int .i64 c, .string ⟨#[]⟩] 37 (0, 0)) := heap_alloc_new w8 _
      have GC := Hid.mk' gC
      have CW3 := Who_ok v8 ys nm _ _ hx8A (by simp) (HGY.out.check (by omega))
      rw [K4.out] at CW3
      simp only at CW3
      clear hb8 hb8A CF hx7 hx8 gC
      go_wp2_with fail
      refine CW3.mono ?_
      rintro e w9 ⟨rfl, hb9⟩
      have g9 := (hb9.block w4.heap.size (by simp; omega)).trans G8.out
      have g9b := (hb9.block w7.heap.size (by simp; omega)).trans GB8.out
      have g9c := (hb9.block w8.heap.size (by simp)).trans GC.out
      have s1 : w9.cell? ⟨w4.heap.size, 1, none⟩ = some (.int .i64 m) := cell_of_row w9 w4.heap.size 1 _ _ _ g9
      have s2 : w9.cell? ⟨w7.heap.size, 0, none⟩ = some (.int .i64 10) := cell_of_row w9 w7.heap.size 0 _ _ _ g9b
      have s3 : w9.cell? ⟨w8.heap.size, 0, none⟩ = some (.int .i64 0) := cell_of_row w9 w8.heap.size 0 _ _ _ g9c
      have s4 : w9.cell? ⟨w8.heap.size, 1, none⟩ = some (.int .i64 c) := cell_of_row w9 w8.heap.size 1 _ _ _ g9c
      have HF := Hid.mk' (HB8.out.trans (hb9.mono HB8.out.size))
      clear hb9 CW3 g9 g9b g9c hx8A
      go_wp2
      go_ret
      exact ⟨rfl, HF.out⟩
    · have hfm' : m = f := hfm.symm
      subst hfm'
      clear hfm
      have g4 : (1 + p != 0) = true := by simpa using (show ¬ 1 + p = 0 by omega)
      go_wp2_with fail
      refine CW.mono ?_
      rintro e w3 ⟨rfl, hb3⟩
      have hr3 := hr2.below hb3 hz12
      have hz3 := hb3.size
      have CT := Take_ok v1 ls nm (1 + p) false w3 _ hr3 (by omega) hns (HG.out.refuse (by omega) HK.out hq1 hq9)
      rw [HT.out] at CT
      simp only [replyV] at CT
      have HB3 := Hid.mk' (HB2.out.trans (hb3.mono HB2.out.size))
      clear hb3 CW hr2
      go_wp2_with fail
      refine CT.mono ?_
      rintro e w4 ⟨v4, rfl, hx4, hb4⟩
      have hbA : Below w4.heap.size w4 (w4.alloc (.cells #[.int .i64 0, .int .i64 m, .string ⟨#[]⟩] 37)) := (Below.refl _ _).alloc (Nat.le_refl _) _
      have hrA := (hr3.below hb4 (by omega)).below hbA (by have := hb4.size; omega)
      have hxA := hx4.below hbA (Nat.le_refl _)
      have HBA := Hid.mk' ((HB3.out.trans (hb4.mono HB3.out.size)).trans (hbA.mono (Nat.le_trans HB3.out.size hb4.size)))
      have CC := check_any v1 ls _ _ hrA (by have := hb4.size; simp; omega)
      rw [HG.out.check (by omega)] at CC
      have gA : (w4.alloc (.cells #[.int .i64 0, .int .i64 m, .string ⟨#[]⟩] 37)).heap[w4.heap.size]? = some (.cells #[.int .i64 0, .int .i64 m, .string ⟨#[]⟩] 37 (0, 0)) := heap_alloc_new w4 _
      have GA := Hid.mk' gA
      clear hb4 hbA hrA gA CT hr3 hx4
      go_wp2_with fail
      refine CC.mono ?_
      rintro e w5 ⟨rfl, hb5⟩
      have g5 := (hb5.block w4.heap.size (by simp)).trans GA.out
      have s0 : w5.cell? ⟨w4.heap.size, 0, none⟩ = some (.int .i64 0) := cell_of_row w5 w4.heap.size 0 _ _ _ g5
      have hx5 := hxA.below hb5 (by simp)
      have HB5 := Hid.mk' (HBA.out.trans (hb5.mono HBA.out.size))
      have G5 := Hid.mk' g5
      have hz5 : w4.heap.size < w5.heap.size := lt_of_block g5
      have CW2 := Who_ok v4 xs nm w5 _ hx5 (by omega) (HGX.out.check (by omega))
      rw [K1.out] at CW2
      simp only at CW2
      clear hb5 CC g5 hxA
      go_wp2_with fail
      refine CW2.mono ?_
      rintro e w6 ⟨rfl, hb6⟩
      have hx6 := hx5.below hb6 (by omega)
      have hz6 := hb6.size
      have CT2 := Take_ok v4 xs nm 9 false w6 _ hx6 (by omega) hns (HGX.out.refuse (by omega) HK.out (by omega) (by omega))
      rw [K2.out] at CT2
      simp only [replyV] at CT2
      have HB6 := Hid.mk' (HB5.out.trans (hb6.mono HB5.out.size))
      have G6 := Hid.mk' ((hb6.block w4.heap.size hz5).trans G5.out)
      clear hb6 CW2 hx5 s0
      go_wp2_with fail
      refine CT2.mono ?_
      rintro e w7 ⟨v7, rfl, -, hb7⟩
      have hb7A : Below w7.heap.size w7 (w7.alloc (.cells #[.int .i64 10, .int .i64 (1 + p), .string ⟨#[]⟩] 37)) := (Below.refl _ _).alloc (Nat.le_refl _) _
      have hx7 := (hx6.below hb7 (by omega)).below hb7A (by have := hb7.size; omega)
      have hz7 := hb7.size
      have HB7 := Hid.mk' ((HB6.out.trans (hb7.mono HB6.out.size)).trans (hb7A.mono (Nat.le_trans HB6.out.size hb7.size)))
      have G7 := Hid.mk' ((hb7A.block w4.heap.size (by omega)).trans ((hb7.block w4.heap.size (by omega)).trans G6.out))
      have gB : (w7.alloc (.cells #[.int .i64 10, .int .i64 (1 + p), .string ⟨#[]⟩] 37)).heap[w7.heap.size]? = some (.cells #[.int .i64 10, .int .i64 (1 + p), .string ⟨#[]⟩] 37 (0, 0)) := heap_alloc_new w7 _
      have GB := Hid.mk' gB
      have CF := Free_ok v4 xs nm (1 + p) _ _ hx7 (by simp; omega) hns (HGX.out.refuse (by omega) HK.out hq1 hq9)
      rw [K3.out] at CF
      simp only [replyV] at CF
      clear hb7 hb7A CT2 hx6 gB
      go_wp2_with fail
      refine CF.mono ?_
      rintro e w8 ⟨v8, rfl, hx8, hb8⟩
      have hb8A : Below w8.heap.size w8 (w8.alloc (.cells #[.int .i64 0, .int .i64 c, .string ⟨#[]⟩] 37)) := (Below.refl _ _).alloc (Nat.le_refl _) _
      have hz8 := hb8.size
      simp at hz8
      have hx8A := hx8.below hb8A (Nat.le_refl _)
      have HB8 := Hid.mk' ((HB7.out.trans (hb8.mono HB7.out.size)).trans (hb8A.mono (Nat.le_trans HB7.out.size hb8.size)))
      have G8 := Hid.mk' ((hb8A.block w4.heap.size (by omega)).trans ((hb8.block w4.heap.size (by simp; omega)).trans G7.out))
      have GB8 := Hid.mk' ((hb8A.block w7.heap.size (by omega)).trans ((hb8.block w7.heap.size (by simp)).trans GB.out))
      have gC : (w8.alloc (.cells #[.int .i64 0, .int .i64 c, .string ⟨#[]⟩] 37)).heap[w8.heap.size]? = some (.cells #[.int .i64 0, .int .i64 c, .string ⟨#[]⟩] 37 (0, 0)) := heap_alloc_new w8 _
      have GC := Hid.mk' gC
      have CW3 := Who_ok v8 ys nm _ _ hx8A (by simp) (HGY.out.check (by omega))
      rw [K4.out] at CW3
      simp only at CW3
      clear hb8 hb8A CF hx7 hx8 gC
      go_wp2_with fail
      refine CW3.mono ?_
      rintro e w9 ⟨rfl, hb9⟩
      have g9 := (hb9.block w4.heap.size (by simp; omega)).trans G8.out
      have g9b := (hb9.block w7.heap.size (by simp; omega)).trans GB8.out
      have g9c := (hb9.block w8.heap.size (by simp)).trans GC.out
      have s1 : w9.cell? ⟨w4.heap.size, 1, none⟩ = some (.int .i64 m) := cell_of_row w9 w4.heap.size 1 _ _ _ g9
      have s2 : w9.cell? ⟨w7.heap.size, 0, none⟩ = some (.int .i64 10) := cell_of_row w9 w7.heap.size 0 _ _ _ g9b
      have s3 : w9.cell? ⟨w8.heap.size, 0, none⟩ = some (.int .i64 0) := cell_of_row w9 w8.heap.size 0 _ _ _ g9c
      have s4 : w9.cell? ⟨w8.heap.size, 1, none⟩ = some (.int .i64 c) := cell_of_row w9 w8.heap.size 1 _ _ _ g9c
      have HF := Hid.mk' (HB8.out.trans (hb9.mono HB8.out.size))
      clear hb9 CW3 g9 g9b g9c hx8A
      go_wp2
      go_ret
      exact ⟨rfl, HF.out⟩

set_option maxRecDepth 100000 in
theorem lifted (os : Os) (started : os.Started) (H : Type) (enc : TypeId × Value → H) :
    ReturnsInHanded {} Try.checked os 5 .any (Rows.locksOneSpec.pre6 enc Try.prog Try.f5 Rows.locksOneRow.domain false) (Rows.locksOneSpec.post enc Try.prog Try.f5 false true false false) := by
  refine returnsInHanded_of_change_sized (C := Try.checked) own started (by kernel_rfl) Try.func5
    (ChangeSpec.witness6 (enc := enc) (C := Try.checked) false ⟨#[], #[.slice none 0 0, .int .i64 0, .int .i64 0], []⟩ 8 (by kernel_rfl) (by kernel_rfl) (by kernel_rfl) (by kernel_rfl)) ?_
  intro W base args ds gs before hval0 hW hcnd hsz _
  have hval : ∀ (j : Nat) t v, Try.f5.params[j]? = some t → args[j]? = some v → Value.okWide Try.prog W .any base t v := hval0
  have hW' := hW
  obtain ⟨p, q, hA0, hV, rfl, hfz, hnd⟩ := hW
  have hA : DataW.TrodAll enc Try.prog W 0 (fun _ => true) true Try.f5.params.toList args.toList ds p := hA0
  rw [Try.params5] at hA hval
  obtain ⟨v0, vs0, d0, ds0, p0, q0, hargs, rfl, rfl, h0, r0⟩ := trodAll_cons hA
  obtain ⟨v1, vs1, d1, ds1, p1, q1, rfl, rfl, rfl, h1, r1⟩ := trodAll_cons r0
  obtain ⟨v2, vs2, d2, ds2, p2, q2, rfl, rfl, rfl, h2, r2⟩ := trodAll_cons r1
  obtain ⟨rfl, rfl, rfl⟩ := trodAll_nil r2
  obtain rfl : args = #[v0, v1, v2] := by cases args; simp_all
  obtain ⟨rfl, rfl⟩ := trodVars_none hV
  simp only [List.append_nil] at hW'
  have lt0 : ∀ x ∈ p0, x.block < W.heap.size := fun x hx => by simpa using hW'.lt x (by simp [hx])
  have lt1 : ∀ x ∈ p1, x.block < W.heap.size := fun x hx => by simpa using hW'.lt x (by simp [hx])
  have lt2 : ∀ x ∈ p2, x.block < W.heap.size := fun x hx => by simpa using hW'.lt x (by simp [hx])
  have k0 := h0
  obtain ⟨ls0, H0⟩ := open_rawsR h0 (okWide_slice Try.underlying32 (hval 0 32 v0 rfl rfl)) (fun n hn => by
    have := List.all_eq_true.1 hsz n (DataW.weights_mem_each (j := 0) (t := 32) (d := d0) rfl rfl n hn)
    simpa using this)
  have k1 := h1
  obtain ⟨a1, rfl, rfl, rfl, w1⟩ := open_int Try.underlying3 (hval 1 3 v1 rfl rfl) h1
  have b1 : -9223372036854775808 ≤ a1 ∧ a1 ≤ 9223372036854775807 := bounds_i64 w1
  have k2 := h2
  obtain ⟨a2, rfl, rfl, rfl, w2⟩ := open_int Try.underlying3 (hval 2 3 v2 rfl rfl) h2
  have b2 : -9223372036854775808 ≤ a2 ∧ a2 ≤ 9223372036854775807 := bounds_i64 w2
  refine (walk W v0 ls0 H0 a1 b1 a2 b2).mono fun e W' ⟨he, hg⟩ => ?_
  subst he
  exact ⟨_, rfl, _, _, _, [], p0 ++ ([] ++ ([] ++ [])), [], hW', trodAll_mk1 (shut_bool Try.underlying4 _), (trodAll_cons_mk (Below.trod laidOut (by kernel_rfl) (of_decide_eq_true (by kernel_rfl)) k0 hg lt0) (trodAll_cons_mk (Below.trod laidOut (by kernel_rfl) (of_decide_eq_true (by kernel_rfl)) k1 hg lt1) (trodAll_cons_mk (Below.trod laidOut (by kernel_rfl) (of_decide_eq_true (by kernel_rfl)) k2 hg lt2) trodAll_mk0))), rfl, hg.frame _, fun h => by cases h⟩

theorem over : Rows.locksOneRow.holds Try.pinned (OpenSpec.ofChange Rows.locksOneSpec) :=
  OpenClaim.holds_of_wide 5 Try.f5 rfl rfl rfl rfl rfl rfl rfl ⟨rfl, rfl, rfl, rfl, rfl⟩ rfl rfl rfl rfl rfl (by kernel_rfl) Try.func5 (by kernel_rfl)
    (of_decide_eq_true (by kernel_rfl)) (by unfold Func.isWrapper; first | (rw [if_pos (by decide +kernel)]; kernel_rfl) | (rw [if_neg (by decide +kernel)]; exact ⟨rfl, rfl⟩))
    (fun os started H enc _ => lifted os started H enc)

theorem proved : Rows.LocksOneSaid :=
  over
end Go.Proofs.Ytkmkocbpclkhhac.locksOne
namespace Go.Proofs.Ytkmkocbpclkhhac
theorem locksOne_holds : Rows.LocksOneSaid := locksOne.proved
#print axioms locksOne_holds
end Go.Proofs.Ytkmkocbpclkhhac
