/- tackroomkeep.locks: good locks, of three names, their fences low. -/
import Derived.Test.YtkmkocbpclkhhacKeepMath
import Derived.Test.YtkmkocbpclkhhacRawOpen
namespace Go.Proofs.Ytkmkocbpclkhhac
open Go.RowKit

set_option maxRecDepth 100000 in
set_option maxHeartbeats 3200000 in
theorem keepLocks_any (v : Value) (rs : List RawD) (w : World) (B : Nat) (hv : RawsR w B v rs) (hB : B ≤ w.heap.size) :
    Calls Try.prog 14 #[v] w fun e w' => ∃ v' ls, e = .returned v' ∧ LocksR w' w'.heap.size v' ls ∧ Good 31 ls ∧ Below w.heap.size w w' := by
  have hn0 : ∀ w : World, LocksR w w.heap.size (.slice none 0 0) [] := fun w => ⟨none, 0, rfl, Nat.le_refl _, by simp, fun _ => rfl, fun h => absurd h (by simp)⟩
  have HN0 := Hid.mk' (hn0 w)
  clear hn0
  obtain ⟨ao, cap, rfl, h1, h2, h3, h4⟩ := hv
  go_enter Try.func14, Try.ntmps14
  go_wp2
  go_loopw [3, 4] (fun o i wr => ∃ (k : Nat) (ls : List LockD), k ≤ rs.length ∧ k ≤ 30 ∧ i = .int .i64 k ∧ LocksR wr wr.heap.size o ls ∧ Good (k + 1) ls ∧ Below w.heap.size w wr) (fun _ i _ => rs.length - (intOf i).toNat)
  case atStart => exact ⟨0, [], by omega, by omega, rfl, HN0.out, Good.nil _, Below.refl _ _⟩
  case round =>
    obtain ⟨k, ls, hk, hk30, rfl, hr, hg, hb⟩ := hrel
    by_cases hlt : k < rs.length
    · by_cases hlt2 : k < 30
      · obtain ⟨b, off, rfl, hbB, hc⟩ := h4 (by omega)
        obtain ⟨x, hx⟩ : ∃ x, rs[k]? = some x := ⟨_, List.getElem?_eq_getElem hlt⟩
        obtain ⟨c0, c1, c2, c3, f0, f1, f2, f3⟩ := hc k x hx
        obtain ⟨x0, x1, x2, x3⟩ := x
        simp only at c0 c1 c2 c3 f0 f1 f2 f3
        have kk : ∀ j, wr.cell? ⟨b, j, none⟩ = w.cell? ⟨b, j, none⟩ := fun j => hb.cell (p := ⟨b, j, none⟩) (by show b < w.heap.size; omega)
        rw [← kk] at c0 c1 c2 c3
        have hp3 := pickZ_bd x3 5 (by omega)
        have hp0 := pickZ_bd x0 8 (by omega)
        have CP3 := fun w => picked_any x3 5 w f3.1 f3.2 (by omega) (by omega)
        have CP0 := fun w => picked_any x0 8 w f0.1 f0.2 (by omega) (by omega)
        have CN := fun w => keepName_any x1 w f1.1 f1.2
        have HK : Hid (IsK (nameK x1)) := nameK_of x1
        have hns : (nameK x1).size ≤ 140737488351232 := by rcases nameK_of x1 with e | e | e <;> rw [e] <;> decide
        obtain ⟨p3, hp3e⟩ : ∃ p, p = pickZ x3 5 := ⟨_, rfl⟩
        obtain ⟨p0, hp0e⟩ : ∃ p, p = pickZ x0 8 := ⟨_, rfl⟩
        obtain ⟨nm, hnme⟩ : ∃ nm, nm = nameK x1 := ⟨_, rfl⟩
        rw [← hp3e] at CP3 hp3
        rw [← hp0e] at CP0 hp0
        rw [← hnme] at CN HK hns
        have HR := Hid.mk' hr
        have HG := Hid.mk' hg
        have HB := Hid.mk' hb
        have hbA : Below wr.heap.size wr (wr.alloc (.cells #[.int .i64 x0, .int .i64 x1, .int .i64 x2, .int .i64 x3] 62)) := (Below.refl _ _).alloc (Nat.le_refl _) _
        have HRA := Hid.mk' (hr.below hbA (Nat.le_refl _))
        have HBA := Hid.mk' hbA
        have hq1 : 1 ≤ 1 + p3 := by omega
        have hq2 : 1 + p3 ≤ 9 := by omega
        clear kk hp3e hp0e hnme hx hc h4 hr hg hb hbA f0 f1 f2 f3
        by_cases hk5 : p0 < 5
        · go_wp2_with fail
          refine (CP3 _).mono ?_
          rintro e w1 ⟨rfl, rfl⟩
          go_wp2_with fail
          refine (CP0 _).mono ?_
          rintro e w1 ⟨rfl, rfl⟩
          go_wp2_with fail
          refine (CN _).mono ?_
          rintro e w2 ⟨rfl, hb2⟩
          have hr2 := HRA.out.below hb2 (by simp)
          have hz2 : wr.heap.size ≤ w2.heap.size := by have := hb2.size; simp at this; omega
          have HB2 := Hid.mk' (HB.out.trans ((HBA.out.trans (hb2.mono (by simp))).mono HB.out.size))
          clear hb2
          go_wp2_with fail
          refine (Take_ok _ ls nm (1 + p3) _ w2 _ hr2 hz2 hns (HG.out.refuse (by omega) HK.out hq1 hq2)).mono ?_
          rintro e w3 ⟨v3, rfl, hr3, hb3⟩
          have HF := Hid.mk' (⟨hr3, HG.out.take HK.out hq1 hq2 (by omega) (decide (1 < p0)), HB2.out.trans (hb3.mono HB2.out.size)⟩ : _ ∧ Good _ _ ∧ _)
          clear hr3 hb3 hr2
          go_wp2
          go_roundw
          case rel => exact ⟨k + 1, _, by omega, by omega, by go_num, HF.out.1, HF.out.2.1, HF.out.2.2⟩
          case measure => simp [intOf]; omega
        · by_cases hk7 : p0 < 7
          · go_wp2_with fail
            refine (CP3 _).mono ?_
            rintro e w1 ⟨rfl, rfl⟩
            go_wp2_with fail
            refine (CP0 _).mono ?_
            rintro e w1 ⟨rfl, rfl⟩
            go_wp2_with fail
            refine (CN _).mono ?_
            rintro e w2 ⟨rfl, hb2⟩
            have hr2 := HRA.out.below hb2 (by simp)
            have hz2 : wr.heap.size ≤ w2.heap.size := by have := hb2.size; simp at this; omega
            have HB2 := Hid.mk' (HB.out.trans ((HBA.out.trans (hb2.mono (by simp))).mono HB.out.size))
            clear hb2
            go_wp2_with fail
            refine (Free_ok _ ls nm (1 + p3) w2 _ hr2 hz2 hns (HG.out.refuse (by omega) HK.out hq1 hq2)).mono ?_
            rintro e w3 ⟨v3, rfl, hr3, hb3⟩
            have HF := Hid.mk' (⟨hr3, HG.out.free nm (1 + p3), HB2.out.trans (hb3.mono HB2.out.size)⟩ : _ ∧ Good _ _ ∧ _)
            clear hr3 hb3 hr2
            go_wp2
            go_roundw
            case rel => exact ⟨k + 1, _, by omega, by omega, by go_num, HF.out.1, HF.out.2.1, HF.out.2.2⟩
            case measure => simp [intOf]; omega
          · go_wp2_with fail
            refine (CP3 _).mono ?_
            rintro e w1 ⟨rfl, rfl⟩
            go_wp2_with fail
            refine (CP0 _).mono ?_
            rintro e w1 ⟨rfl, rfl⟩
            have HBB := Hid.mk' (HB.out.trans (HBA.out.mono HB.out.size))
            go_wp2_with fail
            refine (Gone_ok _ ls (1 + p3) _ _ HRA.out (by simp) (HG.out.goneE (by omega) hq1 hq2)).mono ?_
            rintro e w3 ⟨v3, rfl, hr3, hb3⟩
            have HF := Hid.mk' (⟨hr3, HG.out.gone (1 + p3), HBB.out.trans (hb3.mono HBB.out.size)⟩ : _ ∧ Good _ _ ∧ _)
            clear hr3 hb3
            go_wp2
            go_roundw
            case rel => exact ⟨k + 1, _, by omega, by omega, by go_num, HF.out.1, HF.out.2.1, HF.out.2.2⟩
            case measure => simp [intOf]; omega
      · have hq : ¬ ((k : Int) < 30) := by omega
        have HF := Hid.mk' (⟨hr, hg.mono (by omega), hb⟩ : _ ∧ Good 31 _ ∧ _)
        clear hr hg hb h4
        go_wp2
        go_ret
        first | exact ⟨_, ls, rfl, HF.out.1, HF.out.2.1, HF.out.2.2⟩ | exact ⟨_, rfl, ls, HF.out.1, HF.out.2.1, HF.out.2.2⟩
    · have HF := Hid.mk' (⟨hr, hg.mono (by omega), hb⟩ : _ ∧ Good 31 _ ∧ _)
      clear hr hg hb h4
      go_wp2
      go_ret
      first | exact ⟨_, ls, rfl, HF.out.1, HF.out.2.1, HF.out.2.2⟩ | exact ⟨_, rfl, ls, HF.out.1, HF.out.2.1, HF.out.2.2⟩
end Go.Proofs.Ytkmkocbpclkhhac
