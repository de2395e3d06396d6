/- who is gone has no lock and stands in no line, and what others had they have still or more: the law tackroomkeep.GoneAll returns true at every argument; no condition. -/
import Derived.Test.YtkmkocbpclkhhacRows
import Derived.WalkKit
import Derived.ProofKit
import Derived.OpenShut
import Derived.ShutString
import Derived.Below
import Derived.SizedLaws
import Derived.Carry
import Derived.Test.YtkmkocbpclkhhacRawOpen
import Derived.Test.YtkmkocbpclkhhacGoneMath
import Derived.Test.YtkmkocbpclkhhacRefFault
import Derived.BigQuiet
namespace Go.Proofs.Ytkmkocbpclkhhac.goneAll
open Go.ChangeShapes Go.WideShapes Go.ChangeAt Go.RowKit
open Go.ChangeMaps (open_string shut_string)
set_option linter.unusedVariables false

theorem own : ownKnob Try.prog.godebug = none := by kernel_rfl
theorem laidOut : laidOutB Try.prog = true := by kernel_rfl

set_option maxRecDepth 100000 in
set_option maxHeartbeats 6400000 in
theorem walk (w : World) (v0 : Value) (ls0 : List RawD) (H0 : RawsR w w.heap.size v0 ls0) (a1 : Int) (b1 : -9223372036854775808 ≤ a1 ∧ a1 ≤ 9223372036854775807) :
    Calls Try.prog 7 #[v0, .int .i64 a1] w fun e w' => e = .returned (.bool true) ∧ Below w.heap.size w w' := by
  have hp := pickZ_bd a1 5 (by omega)
  have CP := fun w => picked_any a1 5 w b1.1 b1.2 (by omega) (by omega)
  have CL := keepLocks_any v0 ls0 w _ H0 (Nat.le_refl _)
  obtain ⟨p, hpe⟩ : ∃ p, p = pickZ a1 5 := ⟨_, rfl⟩
  rw [← hpe] at CP hp
  clear hpe
  have hq1 : 1 ≤ 1 + p := by omega
  have hq2 : 1 + p ≤ 9 := by omega
  have hn0 : ∀ w : World, LocksR w w.heap.size (.slice none 0 0) [] := fun w => ⟨none, 0, rfl, Nat.le_refl _, by simp, fun _ => rfl, fun h => absurd h (by simp)⟩
  have HN0 := Hid.mk' hn0
  have hz : refuseL [] ⟨#[122, 122]⟩ (1 + p) = 0 := by
    unfold refuseL
    rw [if_neg (show ¬ checkL [] ≠ 0 by decide +kernel), if_neg (show ¬ nameB ⟨#[122, 122]⟩ = false by decide +kernel), if_neg (by omega)]
  have ht : takeL [] ⟨#[122, 122]⟩ (1 + p) false = ([⟨⟨#[122, 122]⟩, 1 + p, 1, []⟩], 0, 1) := by simp [takeL, placeL]
  have HZ := Hid.mk' hz
  have HT := Hid.mk' ht
  clear hn0 hz ht
  obtain ⟨va, vb, rfl, -⟩ := id H0
  go_enter Try.func7, Try.ntmps7
  go_wp2_with fail
  refine CL.mono ?_
  rintro e w1 ⟨v1, ls, rfl, hr1, hg1, hb1⟩
  have HG := Hid.mk' hg1
  have HR1 := Hid.mk' hr1
  have HB1 := Hid.mk' hb1
  clear hg1 hr1 hb1 CL
  go_wp2_with fail
  refine (CP _).mono ?_
  rintro e w1 ⟨rfl, rfl⟩
  go_wp2_with fail
  refine (Gone_ok _ ls (1 + p) w1 _ HR1.out (Nat.le_refl _) (HG.out.goneE (by omega) hq1 hq2)).mono ?_
  rintro e w2 ⟨v2, rfl, hr2, hb2⟩
  have HR2 := Hid.mk' hr2
  have HR12 := Hid.mk' (HR1.out.below hb2 (Nat.le_refl _))
  have HB2 := Hid.mk' (HB1.out.trans (hb2.mono HB1.out.size))
  have hz12 : w1.heap.size ≤ w2.heap.size := hb2.size
  clear hr2 hb2
  have CT := Take_ok (.slice none 0 0) [] ⟨#[122, 122]⟩ (1 + p) false w2 _ (HN0.out w2) (Nat.le_refl _) (by decide) HZ.out
  rw [HT.out] at CT
  simp only [replyV] at CT
  go_wp2_with fail
  refine CT.mono ?_
  rintro e w3 ⟨v3, rfl, -, hb3⟩
  have hbA : Below w3.heap.size w3 (w3.alloc (.cells #[.int .i64 0, .int .i64 1, .string ⟨#[]⟩] 37)) := (Below.refl _ _).alloc (Nat.le_refl _) _
  have hb3A := (hb3.trans (hbA.mono hb3.size))
  have HR2A := Hid.mk' (HR2.out.below hb3A (Nat.le_refl _))
  have HR1A := Hid.mk' (HR12.out.below hb3A hz12)
  have HBA := Hid.mk' (HB2.out.trans (hb3A.mono HB2.out.size))
  have hz3 : w2.heap.size ≤ w3.heap.size := hb3.size
  have CC := check_any v2 _ _ _ HR2A.out (by simp; omega)
  rw [(HG.out.gone (1 + p)).check (by omega)] at CC
  clear hb3 hbA hb3A CT
  obtain ⟨ao1, cap1, rfl, -⟩ := id HR1.out
  obtain ⟨ao2, cap2, e2, -⟩ := id HR2.out
  have hgl : (goneL ls (1 + p)).length = ls.length := by simp [goneL]
  rw [hgl] at e2
  subst e2
  go_wp2_with fail
  refine CC.mono ?_
  rintro e w4 ⟨rfl, hb4⟩
  have HR24 := Hid.mk' (HR2A.out.below hb4 (by simp; omega))
  have HR14 := Hid.mk' (HR1A.out.below hb4 (by simp; omega))
  have HB4 := Hid.mk' (HBA.out.trans (hb4.mono HBA.out.size))
  have hz4 : w2.heap.size ≤ w4.heap.size := by have := hb4.size; simp at this; omega
  have HGL := Hid.mk' hgl
  clear hb4 CC HR2A HR1A hgl
  go_wp2
  go_loopw [56] (fun i wr => ∃ k : Nat, k ≤ ls.length ∧ i = .int .i64 k ∧ Below w4.heap.size w4 wr) (fun i _ => ls.length - (intOf i).toNat)
  case atStart => exact ⟨0, by omega, rfl, Below.refl _ _⟩
  case round =>
    obtain ⟨k, hk, rfl, hb⟩ := hrel
    have HBK := Hid.mk' hb
    by_cases hlt : k < ls.length
    · obtain ⟨x, hx⟩ : ∃ x, ls[k]? = some x := ⟨_, List.getElem?_eq_getElem hlt⟩
      have hy : (goneL ls (1 + p))[k]? = some (leaveX x (1 + p)) := by simp [goneL, hx]
      obtain ⟨f1, f2, f3, f4⟩ := leave_facts (HG.out.each x (List.mem_of_getElem? hx)).1 hq1
      obtain ⟨y, hye⟩ : ∃ y, y = leaveX x (1 + p) := ⟨_, rfl⟩
      rw [← hye] at hy f1 f2 f3 f4
      obtain ⟨ao, cap, e1, r1, r2, r3, r4⟩ := HR14.out
      obtain ⟨d1, o1, rfl, hd1, hc1⟩ := r4 (by omega)
      obtain ⟨ao', cap', e1', r1', r2', r3', r4'⟩ := HR24.out
      rw [HGL.out] at r4' e1' r1'
      obtain ⟨d2, o2, rfl, hd2, hc2⟩ := r4' (by omega)
      simp only [Value.slice.injEq, true_and] at e1 e1'
      obtain ⟨rfl, rfl⟩ := e1
      obtain ⟨rfl, rfl⟩ := e1'
      obtain ⟨lx, x0, x1, x2, x3, -, -⟩ := hc1 k x hx
      obtain ⟨ly, y0, y1, y2, y3, hly, -⟩ := hc2 k y hy
      have k1 : ∀ j, wr.cell? ⟨d1, j, none⟩ = w4.cell? ⟨d1, j, none⟩ := fun j => hb.cell (p := ⟨d1, j, none⟩) (by show d1 < w4.heap.size; omega)
      have k2 : ∀ j, wr.cell? ⟨d2, j, none⟩ = w4.cell? ⟨d2, j, none⟩ := fun j => hb.cell (p := ⟨d2, j, none⟩) (by show d2 < w4.heap.size; omega)
      rw [← k1] at x1 x2
      rw [← k2] at y0 y1 y2 y3
      have hdr1 : d1 < wr.heap.size := by have := hb.size; omega
      have hdr2 : d2 < wr.heap.size := by have := hb.size; omega
      obtain ⟨xn, xh, xf, xl⟩ := x
      obtain ⟨yn, yh, yf, yl⟩ := y
      simp only at x1 x2 y0 y1 y2 y3 f1 f2 f3 f4 hly
      have HI : Hid (∀ w', Below wr.heap.size wr w' → IntsR w' w2.heap.size ly yl) := fun w' hb' => (hly.below hb hz4).below hb' (Nat.le_trans hz4 hb.size)
      obtain ⟨la, lb, rfl, -⟩ := hly
      have e1 : (yh == 1 + p) = false := by simpa using f1
      have e4 : decide (yf < xf) = false := by simpa using f4
      have F2 := Hid.mk' f2
      have F3 := Hid.mk' f3
      have HCI : Hid (∀ n, Calls Try.prog 21 #[.slice la yl.length lb, .int .i64 (1 + p)] ((wr.alloc (.cells #[.string yn, .int .i64 yh, .int .i64 yf, .slice la yl.length lb] 47)).drewN n) fun e w' => e = .returned (.bool false) ∧ w' = ((wr.alloc (.cells #[.string yn, .int .i64 yh, .int .i64 yf, .slice la yl.length lb] 47)).drewN n)) := fun n => by
        have := contains_any _ yl (1 + p) _ _ (HI.out ((wr.alloc (.cells #[.string yn, .int .i64 yh, .int .i64 yf, .slice la yl.length lb] 47)).drewN n) (((Below.refl _ _).alloc (Nat.le_refl _) _).trans (drewN_below _ _ _)))
        rw [F2.out] at this
        exact this
      have hlt' : (k : Int) < ls.length := by omega
      have HBX : Hid (∀ o n, Below w4.heap.size w4 ((wr.alloc o).drewN n)) := fun o n => (HBK.out.alloc HBK.out.size o).trans (drewN_below _ _ _)
      clear hc1 hc2 r4 r4' hx hy hye f1 f2 f3 r3 r3' x0 x3 k1 k2 hb
      by_cases hx0 : xh = 0
      · subst hx0
        go_wp2_with fail
        go_quiet ((go_at_call 21; exact quiet_at _ (HCI.out _)))
        go_wp2
        go_roundw
        case rel => exact ⟨k + 1, by omega, by go_num, HBX.out _ _⟩
        case measure => simp [intOf]; omega
      · have g1 : (xh != 0) = true := by simpa using hx0
        by_cases hxa : xh = 1 + p
        · subst hxa
          go_wp2_with fail
          go_quiet ((go_at_call 21; exact quiet_at _ (HCI.out _)))
          go_wp2
          go_roundw
          case rel => exact ⟨k + 1, by omega, by go_num, HBX.out _ _⟩
          case measure => simp [intOf]; omega
        · have g2 : (xh != 1 + p) = true := by simpa using hxa
          have g3 : yh = xh := F3.out hx0 hxa
          subst g3
          go_wp2_with fail
          go_quiet ((go_at_call 21; exact quiet_at _ (HCI.out _)))
          go_wp2
          go_roundw
          case rel => exact ⟨k + 1, by omega, by go_num, HBX.out _ _⟩
          case measure => simp [intOf]; omega
    · clear HN0
      go_wp2
      go_ret
      exact ⟨rfl, HB4.out.trans (HBK.out.mono HB4.out.size)⟩

set_option maxRecDepth 100000 in
theorem lifted (os : Os) (started : os.Started) (H : Type) (enc : TypeId × Value → H) :
    ReturnsInHanded {} Try.checked os 7 .any (Rows.goneAllSpec.pre6 enc Try.prog Try.f7 Rows.goneAllRow.domain false) (Rows.goneAllSpec.post enc Try.prog Try.f7 false true false false) := by
  refine returnsInHanded_of_change_sized (C := Try.checked) own started (by kernel_rfl) Try.func7
    (ChangeSpec.witness6 (enc := enc) (C := Try.checked) false ⟨#[], #[.slice none 0 0, .int .i64 0], []⟩ 8 (by kernel_rfl) (by kernel_rfl) (by kernel_rfl) (by kernel_rfl)) ?_
  intro W base args ds gs before hval0 hW hcnd hsz _
  have hval : ∀ (j : Nat) t v, Try.f7.params[j]? = some t → args[j]? = some v → Value.okWide Try.prog W .any base t v := hval0
  have hW' := hW
  obtain ⟨p, q, hA0, hV, rfl, hfz, hnd⟩ := hW
  have hA : DataW.TrodAll enc Try.prog W 0 (fun _ => true) true Try.f7.params.toList args.toList ds p := hA0
  rw [Try.params7] at hA hval
  obtain ⟨v0, vs0, d0, ds0, p0, q0, hargs, rfl, rfl, h0, r0⟩ := trodAll_cons hA
  obtain ⟨v1, vs1, d1, ds1, p1, q1, rfl, rfl, rfl, h1, r1⟩ := trodAll_cons r0
  obtain ⟨rfl, rfl, rfl⟩ := trodAll_nil r1
  obtain rfl : args = #[v0, v1] := by cases args; simp_all
  obtain ⟨rfl, rfl⟩ := trodVars_none hV
  simp only [List.append_nil] at hW'
  have lt0 : ∀ x ∈ p0, x.block < W.heap.size := fun x hx => by simpa using hW'.lt x (by simp [hx])
  have lt1 : ∀ x ∈ p1, x.block < W.heap.size := fun x hx => by simpa using hW'.lt x (by simp [hx])
  have k0 := h0
  obtain ⟨ls0, H0⟩ := open_rawsR h0 (okWide_slice Try.underlying32 (hval 0 32 v0 rfl rfl)) (fun n hn => by
    have := List.all_eq_true.1 hsz n (DataW.weights_mem_each (j := 0) (t := 32) (d := d0) rfl rfl n hn)
    simpa using this)
  have k1 := h1
  obtain ⟨a1, rfl, rfl, rfl, w1⟩ := open_int Try.underlying3 (hval 1 3 v1 rfl rfl) h1
  have b1 : -9223372036854775808 ≤ a1 ∧ a1 ≤ 9223372036854775807 := bounds_i64 w1
  refine (walk W v0 ls0 H0 a1 b1).mono fun e W' ⟨he, hg⟩ => ?_
  subst he
  exact ⟨_, rfl, _, _, _, [], p0 ++ ([] ++ []), [], hW', trodAll_mk1 (shut_bool Try.underlying4 _), (trodAll_cons_mk (Below.trod laidOut (by kernel_rfl) (of_decide_eq_true (by kernel_rfl)) k0 hg lt0) (trodAll_cons_mk (Below.trod laidOut (by kernel_rfl) (of_decide_eq_true (by kernel_rfl)) k1 hg lt1) trodAll_mk0)), rfl, hg.frame _, fun h => by cases h⟩

theorem over : Rows.goneAllRow.holds Try.pinned (OpenSpec.ofChange Rows.goneAllSpec) :=
  OpenClaim.holds_of_wide 7 Try.f7 rfl rfl rfl rfl rfl rfl rfl ⟨rfl, rfl, rfl, rfl, rfl⟩ rfl rfl rfl rfl rfl (by kernel_rfl) Try.func7 (by kernel_rfl)
    (of_decide_eq_true (by kernel_rfl)) (by unfold Func.isWrapper; first | (rw [if_pos (by decide +kernel)]; kernel_rfl) | (rw [if_neg (by decide +kernel)]; exact ⟨rfl, rfl⟩))
    (fun os started H enc _ => lifted os started H enc)

theorem proved : Rows.GoneAllSaid :=
  over
end Go.Proofs.Ytkmkocbpclkhhac.goneAll
namespace Go.Proofs.Ytkmkocbpclkhhac
theorem goneAll_holds : Rows.GoneAllSaid := goneAll.proved
#print axioms goneAll_holds
end Go.Proofs.Ytkmkocbpclkhhac
