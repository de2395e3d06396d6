/- who stands in a line is given the lock in turn: the law tackroomkeep.LinesFair returns true at every argument; no condition. -/
import Derived.Test.YtkmkocbpclkhhacRows
import Derived.WalkKit
import Derived.ProofKit
import Derived.OpenShut
import Derived.ShutString
import Derived.Below
import Derived.SizedLaws
import Derived.Carry
import Derived.Test.YtkmkocbpclkhhacLockOpen
import Derived.Test.YtkmkocbpclkhhacFairMath
namespace Go.Proofs.Ytkmkocbpclkhhac.linesFair
open Go.ChangeShapes Go.WideShapes Go.ChangeAt Go.RowKit
open Go.ChangeMaps (open_string shut_string)
set_option linter.unusedVariables false

theorem own : ownKnob Try.prog.godebug = none := by kernel_rfl
theorem laidOut : laidOutB Try.prog = true := by kernel_rfl

set_option maxRecDepth 100000 in
set_option maxHeartbeats 6400000 in
theorem walk (w : World) (a0 : Int) (b0 : -9223372036854775808 ≤ a0 ∧ a0 ≤ 9223372036854775807) (a1 : Int) (b1 : -9223372036854775808 ≤ a1 ∧ a1 ≤ 9223372036854775807) :
    Calls Try.prog 6 #[.int .i64 a0, .int .i64 a1] w fun e w' => e = .returned (.bool true) ∧ Below w.heap.size w w' := by
  obtain ⟨i0, hi, hz0, hz1, hz2⟩ := info_parts Try.infoInt
  have hp := pickZ_bd a1 3 (by omega)
  have CP := fun w => picked_any a1 3 w b1.1 b1.2 (by omega) (by omega)
  have CN := keepName_any a0 w b0.1 b0.2
  obtain ⟨p, hpe⟩ : ∃ p, p = pickZ a1 3 := ⟨_, rfl⟩
  rw [← hpe] at CP hp
  have hc : 1 + p = 1 ∨ 1 + p = 2 ∨ 1 + p = 3 := by omega
  have F1 := Hid.mk' (fair_first a0 (1 + p) hc)
  have F2 := Hid.mk' (fair_full a0 (1 + p) hc)
  have F3 := Hid.mk' (fun k x => fair_wait a0 (1 + p) hc k x)
  have F4 := Hid.mk' (fair_pass a0 (1 + p) hc)
  have F5 := Hid.mk' (headZ_pos (1 + p) hc)
  have hns : (nameK a0).size ≤ 3 := nameK_size a0
  obtain ⟨nm, hnm⟩ : ∃ nm, nm = nameK a0 := ⟨_, rfl⟩
  rw [← hnm] at CN F1 F2 F3 F4 hns
  clear hnm hpe
  have hn0 : ∀ w : World, LocksR w w.heap.size (.slice none 0 0) [] := fun w => ⟨none, 0, rfl, Nat.le_refl _, by simp, fun _ => rfl, fun h => absurd h (by simp)⟩
  have HN0 := Hid.mk' hn0
  clear hn0
  rcases (by omega : p = 0 ∨ p = 1 ∨ p = 2) with rfl | rfl | rfl
  · go_enter Try.func6, Try.ntmps6
    go_wp2_with fail
    refine CN.mono ?_
    rintro e w1 ⟨rfl, hb1⟩
    have CT := Take_ok (.slice none 0 0) [] nm 9 true w1 _ (HN0.out w1) (Nat.le_refl _) (by omega) F1.out.1
    rw [F1.out.2] at CT
    simp only [replyV] at CT
    go_wp2_with fail
    refine CT.mono ?_
    rintro e w2 ⟨v2, rfl, hr2, hb2⟩
    have HB2 := Hid.mk' (hb1.trans (hb2.mono hb1.size))
    clear CT hb1 hb2
    go_wp2_with fail
    refine (CP _).mono ?_
    rintro e w3 ⟨rfl, rfl⟩
    go_wp2
    obtain ⟨W, hW⟩ : ∃ W, W = ((w2.alloc (.cells #[.int .i64 0, .int .i64 1, .string ⟨#[]⟩] 37)).alloc (.cells #[.int .i64 1, .int .i64 2, .int .i64 3] 3)) := ⟨_, rfl⟩
    rw [← hW]
    have gO : W.heap[w2.heap.size + 1]? = some (.cells #[.int .i64 1, .int .i64 2, .int .i64 3] 3 (0, 0)) := by
      have := heap_alloc_new (w2.alloc (.cells #[.int .i64 0, .int .i64 1, .string ⟨#[]⟩] 37)) (.cells #[.int .i64 1, .int .i64 2, .int .i64 3] 3)
      rw [hW]; simpa using this
    have hbW : Below w2.heap.size w2 W := by rw [hW]; exact ((Below.refl _ _).alloc (Nat.le_refl _) _).alloc (by simp) _
    have HR : Hid (LocksR W W.heap.size v2 (waitL nm (1 + 0) 0)) := (hr2.below hbW (Nat.le_refl _)).mono hbW.size
    have HBW := Hid.mk' (HB2.out.trans (hbW.mono HB2.out.size))
    have hzW : w2.heap.size + 2 ≤ W.heap.size := by rw [hW]; simp
    have HO : Hid (∀ (k : Nat) (x : Int), (ordZ (1 + 0))[k]? = some x → W.cell? ⟨w2.heap.size + 1, k, none⟩ = some (.int .i64 x)) := fun k x hx => by
      match k with
      | 0 => cases (show some (1 : Int) = some x from hx); exact cell_of_row W (w2.heap.size + 1) 0 _ _ _ gO
      | 1 => cases (show some (2 : Int) = some x from hx); exact cell_of_row W (w2.heap.size + 1) 1 _ _ _ gO
      | 2 => cases (show some (3 : Int) = some x from hx); exact cell_of_row W (w2.heap.size + 1) 2 _ _ _ gO
      | k + 3 => cases (show (none : Option Int) = some x from hx)
    clear hW hr2 hbW gO
    go_loopw [6, 55] (fun al i wr => ∃ k : Nat, k ≤ 3 ∧ i = .int .i64 k ∧ LocksR wr wr.heap.size al (waitL nm (1 + 0) k) ∧ Below W.heap.size W wr) (fun _ i _ => 3 - (intOf i).toNat)
    case atStart => exact ⟨0, by omega, rfl, HR.out, Below.refl _ _⟩
    case round =>
      obtain ⟨k, hk, rfl, hr, hb⟩ := hrel
      by_cases hlt : k < 3
      · obtain ⟨x, hx, -⟩ := ordZ_at (1 + 0) k hlt
        have hcell : wr.cell? ⟨w2.heap.size + 1, k, none⟩ = some (.int .i64 x) := (hb.cell (p := ⟨w2.heap.size + 1, k, none⟩) (by show w2.heap.size + 1 < W.heap.size; omega)).trans (HO.out k x hx)
        have CT := Take_ok _ _ nm x true wr _ hr (Nat.le_refl _) (by omega) (F3.out k x hx).1
        rw [(F3.out k x hx).2] at CT
        simp only [replyV] at CT
        have HBK := Hid.mk' hb
        clear hx hr hb HR
        go_wp2_with fail
        refine CT.mono ?_
        rintro e w5 ⟨v5, rfl, hr5, hb5⟩
        have hbA : Below w5.heap.size w5 (w5.alloc (.cells #[.int .i64 10, .int .i64 9, .string ⟨#[]⟩] 37)) := (Below.refl _ _).alloc (Nat.le_refl _) _
        have HF1 := Hid.mk' ((hr5.below hbA (Nat.le_refl _)).mono hbA.size)
        have HF2 := Hid.mk' (HBK.out.trans ((hb5.mono HBK.out.size).trans (hbA.mono (Nat.le_trans HBK.out.size hb5.size))))
        clear hr5 hb5 hbA CT hcell
        go_wp2
        go_roundw
        case rel => exact ⟨k + 1, by omega, by go_num, HF1.out, HF2.out⟩
        case measure => simp [intOf]; omega
      · have hk3 : k = 3 := by omega
        subst hk3
        have CT := Take_ok _ _ nm 8 true wr _ hr (Nat.le_refl _) (by omega) F2.out.1
        rw [F2.out.2] at CT
        simp only [replyV] at CT
        have HRK := Hid.mk' hr
        have HBK := Hid.mk' hb
        clear hr hb HR
        go_wp2_with fail
        refine CT.mono ?_
        rintro e w6 ⟨v6, rfl, -, hb6⟩
        obtain ⟨A6, hA6⟩ : ∃ A6, A6 = w6.alloc (.cells #[.int .i64 8, .int .i64 0, .string ⟨#[]⟩] 37) := ⟨_, rfl⟩
        have g6 : A6.heap[w6.heap.size]? = some (.cells #[.int .i64 8, .int .i64 0, .string ⟨#[]⟩] 37 (0, 0)) := by rw [hA6]; exact heap_alloc_new w6 _
        have hbA : Below w6.heap.size w6 A6 := by rw [hA6]; exact (Below.refl _ _).alloc (Nat.le_refl _) _
        have hz6 : w6.heap.size < A6.heap.size := lt_of_block g6
        have hbWA : Below W.heap.size W A6 := HBK.out.trans ((hb6.mono HBK.out.size).trans (hbA.mono (Nat.le_trans HBK.out.size hb6.size)))
        have hrA := HRK.out.below (hb6.trans (hbA.mono hb6.size)) (Nat.le_refl _)
        have hzA : wr.heap.size ≤ A6.heap.size := by have := hb6.size; omega
        have hOA : IntsR A6 A6.heap.size (.slice (some ⟨w2.heap.size + 1, 0, none⟩) 3 3) (ordZ (1 + 0)) := ⟨_, _, rfl, by decide, by decide, (fun h => by cases h), fun _ => ⟨_, _, rfl, by have := hbWA.size; omega, fun j y hj => by
          rw [Nat.zero_add]
          exact (hbWA.cell (p := ⟨w2.heap.size + 1, j, none⟩) (by show w2.heap.size + 1 < W.heap.size; omega)).trans (HO.out j y hj)⟩⟩
        have CC6 := cloneInts _ (ordZ (1 + 0)) A6 _ hOA (Nat.le_refl _)
        have G6 := Hid.mk' g6
        have HA6 := Hid.mk' hA6
        have HWA := Hid.mk' hbWA
        have HRA := Hid.mk' hrA
        rw [hA6] at CC6
        clear hbA hbWA hrA hOA g6 hA6 hb6 CT
        go_wp2_with fail
        refine CC6.mono ?_
        rw [← HA6.out]
        rintro e w7 ⟨v7, rfl, hown7, hb7⟩
        have HO7 := Hid.mk' hown7
        obtain ⟨vo, vc, rfl⟩ := ownsRow_shape hown7
        have hz7 : A6.heap.size ≤ w7.heap.size := hb7.size
        clear CC6 hown7
        go_wp2_with (at_builtin; refine wpList_append_own _ rfl (.tmp 89) (.tmp 90) 43 rfl A6.heap.size 3 i0 (.int .i64 0) 1 8 Try.underlying43 hi hz0 hz1 hz2 rfl (by decide) _ _ _ rfl (HO7.out.alloc _) ⟨w7.heap.size, 0, none⟩ 1 1 [.int .i64 0] rfl rfl (cell_one_new _ _ _) (by intro u hu; simp at hu; subst hu; rfl) (by unfold maxLen; decide) (by decide) (by simp; omega) ?_)
        intro v8 w8 hown8 hg8 _
        have hB8 : Below A6.heap.size A6 w8 := (hb7.alloc hz7 _).grown hg8 (by simp; omega) (fun c hc => (HO7.out.lt c hc).1)
        obtain ⟨b, off, cap, rfl, hcap, hbb, hcc⟩ : ∃ b off cap, v8 = .slice (some ⟨b, off, none⟩) 4 cap ∧ 4 ≤ cap ∧ b < w8.heap.size ∧ ∀ (k : Nat) (x : Int), (ordZ (1 + 0) ++ [0])[k]? = some x → w8.cell? ⟨b, off + k, none⟩ = some (.int .i64 x) := by
          have h8 : w8.ownsRow A6.heap.size 3 1 v8 (ordZ (1 + 0) ++ [0]).length (intCells (ordZ (1 + 0) ++ [0])) := by simpa [intCells] using hown8
          obtain ⟨ao, cap, e8, q1, q2, q3, q4⟩ := ownsRow_ints h8 (by decide) (Nat.le_refl _)
          obtain ⟨b, off, rfl, hbb, hcc⟩ := q4 (by decide)
          exact ⟨b, off, cap, e8, q1, hbb, hcc⟩
        have HQE : Hid (∀ k : Nat, k < 4 → w8.cell? ⟨b, off + k, none⟩ = some (.int .i64 (headZ (1 + 0) (k + 1)))) := fun k hk => by
          match k, hk with
          | 0, _ => exact hcc 0 _ rfl
          | 1, _ => exact hcc 1 _ rfl
          | 2, _ => exact hcc 2 _ rfl
          | 3, _ => exact hcc 3 _ rfl
        have HG8 : Hid (w8.heap[w6.heap.size]? = some (.cells #[.int .i64 8, .int .i64 0, .string ⟨#[]⟩] 37 (0, 0))) := (hB8.block _ hz6).trans G6.out
        have HR8 : Hid (LocksR w8 w8.heap.size _ (passL nm (1 + 0) 0)) := (HRA.out.below hB8 hzA).mono (Nat.le_trans hzA hB8.size)
        have HBF := Hid.mk' (HBW.out.trans ((HWA.out.mono HBW.out.size).trans (hB8.mono (Nat.le_trans HBW.out.size HWA.out.size))))
        have hz8 : w6.heap.size < w8.heap.size := by have := hB8.size; omega
        clear hown8 hg8 hB8 hcc hb7
        go_wp2
        go_loopw [6, 18, 93] (fun al h i wr2 => ∃ k : Nat, k ≤ 4 ∧ i = .int .i64 k ∧ h = .int .i64 (headZ (1 + 0) k) ∧ LocksR wr2 wr2.heap.size al (passL nm (1 + 0) k) ∧ Below w8.heap.size w8 wr2) (fun _ _ i _ => 4 - (intOf i).toNat)
        case atStart => exact ⟨0, by omega, rfl, rfl, HR8.out, Below.refl _ _⟩
        case round =>
          obtain ⟨k, hk, rfl, rfl, hr, hb⟩ := hrel
          by_cases hlt : k < 4
          · obtain ⟨q1, q2, q3, q4⟩ := F4.out k hlt
            have hcell : wr.cell? ⟨b, off + k, none⟩ = some (.int .i64 (headZ (1 + 0) (k + 1))) := (hb.cell (p := ⟨b, off + k, none⟩) hbb).trans (HQE.out k hlt)
            have CF := Free_ok _ _ nm (headZ (1 + 0) k) wr _ hr (Nat.le_refl _) (by omega) q1
            rw [q2] at CF
            simp only [replyV] at CF
            have Q3 := Hid.mk' q3
            have Q4 := Hid.mk' q4
            have HBK := Hid.mk' hb
            clear q1 q2 q3 q4 hr hb HR8
            by_cases h3 : k < 3
            · obtain ⟨x1, x2, x3⟩ := F5.out k h3
              obtain ⟨x, hx⟩ : ∃ x, x = headZ (1 + 0) (k + 1) := ⟨_, rfl⟩
              obtain ⟨hd, hhd⟩ : ∃ hd, hd = headZ (1 + 0) k := ⟨_, rfl⟩
              rw [x3, ← hx] at Q4
              rw [← hx] at hcell CF x1
              rw [← hhd] at CF ⊢
              have hx0 : (x != 0) = true := by simpa using (show ¬ x = 0 by omega)
              have HX := Hid.mk' hx
              clear x1 x2 x3 hx hhd
              go_wp2_with fail
              refine CF.mono ?_
              rintro e w9 ⟨v9, rfl, hr9, hb9⟩
              have hbA : Below w9.heap.size w9 (w9.alloc (.cells #[.int .i64 0, .int .i64 x, .string ⟨#[]⟩] 37)) := (Below.refl _ _).alloc (Nat.le_refl _) _
              have CW := Who_ok v9 _ nm _ w9.heap.size (hr9.below hbA (Nat.le_refl _)) (by simp) Q3.out
              rw [Q4.out] at CW
              simp only at CW
              have HR9 := Hid.mk' hr9
              have HB9 := Hid.mk' ((hb9.mono HBK.out.size).trans (hbA.mono (Nat.le_trans HBK.out.size hb9.size)))
              have HBA := Hid.mk' hbA
              clear hr9 hb9 CF hbA
              go_wp2_with fail
              refine CW.mono ?_
              rintro e w10 ⟨rfl, hb10⟩
              have HF1 := Hid.mk' ((HR9.out.below (HBA.out.trans (hb10.mono (by simp))) (Nat.le_refl _)).mono (HBA.out.trans (hb10.mono (by simp))).size)
              have HF2 := Hid.mk' (HBK.out.trans (HB9.out.trans (hb10.mono (Nat.le_trans HBK.out.size HB9.out.size))))
              clear hb10 CW hcell
              go_wp2
              go_roundw
              case rel => exact ⟨k + 1, by omega, by go_num, by rw [HX.out], HF1.out, HF2.out⟩
              case measure => simp [intOf]; omega
            · have hk3 : k = 3 := by omega
              subst hk3
              have e4 : headZ (1 + 0) (3 + 1) = 0 := rfl
              have Q5 : whoL (passL nm (1 + 0) (3 + 1)) nm = (0, 0) := Q4.out
              obtain ⟨hd, hhd⟩ : ∃ hd, hd = headZ (1 + 0) 3 := ⟨_, rfl⟩
              rw [e4] at hcell CF
              rw [← hhd] at CF ⊢
              have H5 := Hid.mk' Q5
              clear hhd e4 Q4 Q5
              go_wp2_with fail
              refine CF.mono ?_
              rintro e w9 ⟨v9, rfl, hr9, hb9⟩
              have hbA : Below w9.heap.size w9 (w9.alloc (.cells #[.int .i64 0, .int .i64 0, .string ⟨#[]⟩] 37)) := (Below.refl _ _).alloc (Nat.le_refl _) _
              have CW := Who_ok v9 _ nm _ w9.heap.size (hr9.below hbA (Nat.le_refl _)) (by simp) Q3.out
              rw [H5.out] at CW
              simp only at CW
              have HR9 := Hid.mk' hr9
              have HB9 := Hid.mk' ((hb9.mono HBK.out.size).trans (hbA.mono (Nat.le_trans HBK.out.size hb9.size)))
              have HBA := Hid.mk' hbA
              clear hr9 hb9 CF hbA
              go_wp2_with fail
              refine CW.mono ?_
              rintro e w10 ⟨rfl, hb10⟩
              have HF1 := Hid.mk' ((HR9.out.below (HBA.out.trans (hb10.mono (by simp))) (Nat.le_refl _)).mono (HBA.out.trans (hb10.mono (by simp))).size)
              have HF2 := Hid.mk' (HBK.out.trans (HB9.out.trans (hb10.mono (Nat.le_trans HBK.out.size HB9.out.size))))
              clear hb10 CW hcell
              go_wp2
              go_roundw
              case rel => exact ⟨4, by omega, by go_num, rfl, HF1.out, HF2.out⟩
              case measure => simp [intOf]
          · have hk4 : k = 4 := by omega
            subst hk4
            have c8 : wr.cell? ⟨w6.heap.size, 0, none⟩ = some (.int .i64 8) := cell_of_row wr w6.heap.size 0 _ _ _ ((hb.block _ hz8).trans HG8.out)
            have HBK := Hid.mk' hb
            clear hr hb HR8
            go_wp2
            go_ret
            exact ⟨rfl, HBF.out.trans (HBK.out.mono HBF.out.size)⟩
  · go_enter Try.func6, Try.ntmps6
    go_wp2_with fail
    refine CN.mono ?_
    rintro e w1 ⟨rfl, hb1⟩
    have CT := Take_ok (.slice none 0 0) [] nm 9 true w1 _ (HN0.out w1) (Nat.le_refl _) (by omega) F1.out.1
    rw [F1.out.2] at CT
    simp only [replyV] at CT
    go_wp2_with fail
    refine CT.mono ?_
    rintro e w2 ⟨v2, rfl, hr2, hb2⟩
    have HB2 := Hid.mk' (hb1.trans (hb2.mono hb1.size))
    clear CT hb1 hb2
    go_wp2_with fail
    refine (CP _).mono ?_
    rintro e w3 ⟨rfl, rfl⟩
    go_wp2
    obtain ⟨W, hW⟩ : ∃ W, W = ((w2.alloc (.cells #[.int .i64 0, .int .i64 1, .string ⟨#[]⟩] 37)).alloc (.cells #[.int .i64 2, .int .i64 3, .int .i64 1] 3)) := ⟨_, rfl⟩
    rw [← hW]
    have gO : W.heap[w2.heap.size + 1]? = some (.cells #[.int .i64 2, .int .i64 3, .int .i64 1] 3 (0, 0)) := by
      have := heap_alloc_new (w2.alloc (.cells #[.int .i64 0, .int .i64 1, .string ⟨#[]⟩] 37)) (.cells #[.int .i64 2, .int .i64 3, .int .i64 1] 3)
      rw [hW]; simpa using this
    have hbW : Below w2.heap.size w2 W := by rw [hW]; exact ((Below.refl _ _).alloc (Nat.le_refl _) _).alloc (by simp) _
    have HR : Hid (LocksR W W.heap.size v2 (waitL nm (1 + 1) 0)) := (hr2.below hbW (Nat.le_refl _)).mono hbW.size
    have HBW := Hid.mk' (HB2.out.trans (hbW.mono HB2.out.size))
    have hzW : w2.heap.size + 2 ≤ W.heap.size := by rw [hW]; simp
    have HO : Hid (∀ (k : Nat) (x : Int), (ordZ (1 + 1))[k]? = some x → W.cell? ⟨w2.heap.size + 1, k, none⟩ = some (.int .i64 x)) := fun k x hx => by
      match k with
      | 0 => cases (show some (2 : Int) = some x from hx); exact cell_of_row W (w2.heap.size + 1) 0 _ _ _ gO
      | 1 => cases (show some (3 : Int) = some x from hx); exact cell_of_row W (w2.heap.size + 1) 1 _ _ _ gO
      | 2 => cases (show some (1 : Int) = some x from hx); exact cell_of_row W (w2.heap.size + 1) 2 _ _ _ gO
      | k + 3 => cases (show (none : Option Int) = some x from hx)
    clear hW hr2 hbW gO
    go_loopw [6, 55] (fun al i wr => ∃ k : Nat, k ≤ 3 ∧ i = .int .i64 k ∧ LocksR wr wr.heap.size al (waitL nm (1 + 1) k) ∧ Below W.heap.size W wr) (fun _ i _ => 3 - (intOf i).toNat)
    case atStart => exact ⟨0, by omega, rfl, HR.out, Below.refl _ _⟩
    case round =>
      obtain ⟨k, hk, rfl, hr, hb⟩ := hrel
      by_cases hlt : k < 3
      · obtain ⟨x, hx, -⟩ := ordZ_at (1 + 1) k hlt
        have hcell : wr.cell? ⟨w2.heap.size + 1, k, none⟩ = some (.int .i64 x) := (hb.cell (p := ⟨w2.heap.size + 1, k, none⟩) (by show w2.heap.size + 1 < W.heap.size; omega)).trans (HO.out k x hx)
        have CT := Take_ok _ _ nm x true wr _ hr (Nat.le_refl _) (by omega) (F3.out k x hx).1
        rw [(F3.out k x hx).2] at CT
        simp only [replyV] at CT
        have HBK := Hid.mk' hb
        clear hx hr hb HR
        go_wp2_with fail
        refine CT.mono ?_
        rintro e w5 ⟨v5, rfl, hr5, hb5⟩
        have hbA : Below w5.heap.size w5 (w5.alloc (.cells #[.int .i64 10, .int .i64 9, .string ⟨#[]⟩] 37)) := (Below.refl _ _).alloc (Nat.le_refl _) _
        have HF1 := Hid.mk' ((hr5.below hbA (Nat.le_refl _)).mono hbA.size)
        have HF2 := Hid.mk' (HBK.out.trans ((hb5.mono HBK.out.size).trans (hbA.mono (Nat.le_trans HBK.out.size hb5.size))))
        clear hr5 hb5 hbA CT hcell
        go_wp2
        go_roundw
        case rel => exact ⟨k + 1, by omega, by go_num, HF1.out, HF2.out⟩
        case measure => simp [intOf]; omega
      · have hk3 : k = 3 := by omega
        subst hk3
        have CT := Take_ok _ _ nm 8 true wr _ hr (Nat.le_refl _) (by omega) F2.out.1
        rw [F2.out.2] at CT
        simp only [replyV] at CT
        have HRK := Hid.mk' hr
        have HBK := Hid.mk' hb
        clear hr hb HR
        go_wp2_with fail
        refine CT.mono ?_
        rintro e w6 ⟨v6, rfl, -, hb6⟩
        obtain ⟨A6, hA6⟩ : ∃ A6, A6 = w6.alloc (.cells #[.int .i64 8, .int .i64 0, .string ⟨#[]⟩] 37) := ⟨_, rfl⟩
        have g6 : A6.heap[w6.heap.size]? = some (.cells #[.int .i64 8, .int .i64 0, .string ⟨#[]⟩] 37 (0, 0)) := by rw [hA6]; exact heap_alloc_new w6 _
        have hbA : Below w6.heap.size w6 A6 := by rw [hA6]; exact (Below.refl _ _).alloc (Nat.le_refl _) _
        have hz6 : w6.heap.size < A6.heap.size := lt_of_block g6
        have hbWA : Below W.heap.size W A6 := HBK.out.trans ((hb6.mono HBK.out.size).trans (hbA.mono (Nat.le_trans HBK.out.size hb6.size)))
        have hrA := HRK.out.below (hb6.trans (hbA.mono hb6.size)) (Nat.le_refl _)
        have hzA : wr.heap.size ≤ A6.heap.size := by have := hb6.size; omega
        have hOA : IntsR A6 A6.heap.size (.slice (some ⟨w2.heap.size + 1, 0, none⟩) 3 3) (ordZ (1 + 1)) := ⟨_, _, rfl, by decide, by decide, (fun h => by cases h), fun _ => ⟨_, _, rfl, by have := hbWA.size; omega, fun j y hj => by
          rw [Nat.zero_add]
          exact (hbWA.cell (p := ⟨w2.heap.size + 1, j, none⟩) (by show w2.heap.size + 1 < W.heap.size; omega)).trans (HO.out j y hj)⟩⟩
        have CC6 := cloneInts _ (ordZ (1 + 1)) A6 _ hOA (Nat.le_refl _)
        have G6 := Hid.mk' g6
        have HA6 := Hid.mk' hA6
        have HWA := Hid.mk' hbWA
        have HRA := Hid.mk' hrA
        rw [hA6] at CC6
        clear hbA hbWA hrA hOA g6 hA6 hb6 CT
        go_wp2_with fail
        refine CC6.mono ?_
        rw [← HA6.out]
        rintro e w7 ⟨v7, rfl, hown7, hb7⟩
        have HO7 := Hid.mk' hown7
        obtain ⟨vo, vc, rfl⟩ := ownsRow_shape hown7
        have hz7 : A6.heap.size ≤ w7.heap.size := hb7.size
        clear CC6 hown7
        go_wp2_with (at_builtin; refine wpList_append_own _ rfl (.tmp 89) (.tmp 90) 43 rfl A6.heap.size 3 i0 (.int .i64 0) 1 8 Try.underlying43 hi hz0 hz1 hz2 rfl (by decide) _ _ _ rfl (HO7.out.alloc _) ⟨w7.heap.size, 0, none⟩ 1 1 [.int .i64 0] rfl rfl (cell_one_new _ _ _) (by intro u hu; simp at hu; subst hu; rfl) (by unfold maxLen; decide) (by decide) (by simp; omega) ?_)
        intro v8 w8 hown8 hg8 _
        have hB8 : Below A6.heap.size A6 w8 := (hb7.alloc hz7 _).grown hg8 (by simp; omega) (fun c hc => (HO7.out.lt c hc).1)
        obtain ⟨b, off, cap, rfl, hcap, hbb, hcc⟩ : ∃ b off cap, v8 = .slice (some ⟨b, off, none⟩) 4 cap ∧ 4 ≤ cap ∧ b < w8.heap.size ∧ ∀ (k : Nat) (x : Int), (ordZ (1 + 1) ++ [0])[k]? = some x → w8.cell? ⟨b, off + k, none⟩ = some (.int .i64 x) := by
          have h8 : w8.ownsRow A6.heap.size 3 1 v8 (ordZ (1 + 1) ++ [0]).length (intCells (ordZ (1 + 1) ++ [0])) := by simpa [intCells] using hown8
          obtain ⟨ao, cap, e8, q1, q2, q3, q4⟩ := ownsRow_ints h8 (by decide) (Nat.le_refl _)
          obtain ⟨b, off, rfl, hbb, hcc⟩ := q4 (by decide)
          exact ⟨b, off, cap, e8, q1, hbb, hcc⟩
        have HQE : Hid (∀ k : Nat, k < 4 → w8.cell? ⟨b, off + k, none⟩ = some (.int .i64 (headZ (1 + 1) (k + 1)))) := fun k hk => by
          match k, hk with
          | 0, _ => exact hcc 0 _ rfl
          | 1, _ => exact hcc 1 _ rfl
          | 2, _ => exact hcc 2 _ rfl
          | 3, _ => exact hcc 3 _ rfl
        have HG8 : Hid (w8.heap[w6.heap.size]? = some (.cells #[.int .i64 8, .int .i64 0, .string ⟨#[]⟩] 37 (0, 0))) := (hB8.block _ hz6).trans G6.out
        have HR8 : Hid (LocksR w8 w8.heap.size _ (passL nm (1 + 1) 0)) := (HRA.out.below hB8 hzA).mono (Nat.le_trans hzA hB8.size)
        have HBF := Hid.mk' (HBW.out.trans ((HWA.out.mono HBW.out.size).trans (hB8.mono (Nat.le_trans HBW.out.size HWA.out.size))))
        have hz8 : w6.heap.size < w8.heap.size := by have := hB8.size; omega
        clear hown8 hg8 hB8 hcc hb7
        go_wp2
        go_loopw [6, 18, 93] (fun al h i wr2 => ∃ k : Nat, k ≤ 4 ∧ i = .int .i64 k ∧ h = .int .i64 (headZ (1 + 1) k) ∧ LocksR wr2 wr2.heap.size al (passL nm (1 + 1) k) ∧ Below w8.heap.size w8 wr2) (fun _ _ i _ => 4 - (intOf i).toNat)
        case atStart => exact ⟨0, by omega, rfl, rfl, HR8.out, Below.refl _ _⟩
        case round =>
          obtain ⟨k, hk, rfl, rfl, hr, hb⟩ := hrel
          by_cases hlt : k < 4
          · obtain ⟨q1, q2, q3, q4⟩ := F4.out k hlt
            have hcell : wr.cell? ⟨b, off + k, none⟩ = some (.int .i64 (headZ (1 + 1) (k + 1))) := (hb.cell (p := ⟨b, off + k, none⟩) hbb).trans (HQE.out k hlt)
            have CF := Free_ok _ _ nm (headZ (1 + 1) k) wr _ hr (Nat.le_refl _) (by omega) q1
            rw [q2] at CF
            simp only [replyV] at CF
            have Q3 := Hid.mk' q3
            have Q4 := Hid.mk' q4
            have HBK := Hid.mk' hb
            clear q1 q2 q3 q4 hr hb HR8
            by_cases h3 : k < 3
            · obtain ⟨x1, x2, x3⟩ := F5.out k h3
              obtain ⟨x, hx⟩ : ∃ x, x = headZ (1 + 1) (k + 1) := ⟨_, rfl⟩
              obtain ⟨hd, hhd⟩ : ∃ hd, hd = headZ (1 + 1) k := ⟨_, rfl⟩
              rw [x3, ← hx] at Q4
              rw [← hx] at hcell CF x1
              rw [← hhd] at CF ⊢
              have hx0 : (x != 0) = true := by simpa using (show ¬ x = 0 by omega)
              have HX := Hid.mk' hx
              clear x1 x2 x3 hx hhd
              go_wp2_with fail
              refine CF.mono ?_
              rintro e w9 ⟨v9, rfl, hr9, hb9⟩
              have hbA : Below w9.heap.size w9 (w9.alloc (.cells #[.int .i64 0, .int .i64 x, .string ⟨#[]⟩] 37)) := (Below.refl _ _).alloc (Nat.le_refl _) _
              have CW := Who_ok v9 _ nm _ w9.heap.size (hr9.below hbA (Nat.le_refl _)) (by simp) Q3.out
              rw [Q4.out] at CW
              simp only at CW
              have HR9 := Hid.mk' hr9
              have HB9 := Hid.mk' ((hb9.mono HBK.out.size).trans (hbA.mono (Nat.le_trans HBK.out.size hb9.size)))
              have HBA := Hid.mk' hbA
              clear hr9 hb9 CF hbA
              go_wp2_with fail
              refine CW.mono ?_
              rintro e w10 ⟨rfl, hb10⟩
              have HF1 := Hid.mk' ((HR9.out.below (HBA.out.trans (hb10.mono (by simp))) (Nat.le_refl _)).mono (HBA.out.trans (hb10.mono (by simp))).size)
              have HF2 := Hid.mk' (HBK.out.trans (HB9.out.trans (hb10.mono (Nat.le_trans HBK.out.size HB9.out.size))))
              clear hb10 CW hcell
              go_wp2
              go_roundw
              case rel => exact ⟨k + 1, by omega, by go_num, by rw [HX.out], HF1.out, HF2.out⟩
              case measure => simp [intOf]; omega
            · have hk3 : k = 3 := by omega
              subst hk3
              have e4 : headZ (1 + 1) (3 + 1) = 0 := rfl
              have Q5 : whoL (passL nm (1 + 1) (3 + 1)) nm = (0, 0) := Q4.out
              obtain ⟨hd, hhd⟩ : ∃ hd, hd = headZ (1 + 1) 3 := ⟨_, rfl⟩
              rw [e4] at hcell CF
              rw [← hhd] at CF ⊢
              have H5 := Hid.mk' Q5
              clear hhd e4 Q4 Q5
              go_wp2_with fail
              refine CF.mono ?_
              rintro e w9 ⟨v9, rfl, hr9, hb9⟩
              have hbA : Below w9.heap.size w9 (w9.alloc (.cells #[.int .i64 0, .int .i64 0, .string ⟨#[]⟩] 37)) := (Below.refl _ _).alloc (Nat.le_refl _) _
              have CW := Who_ok v9 _ nm _ w9.heap.size (hr9.below hbA (Nat.le_refl _)) (by simp) Q3.out
              rw [H5.out] at CW
              simp only at CW
              have HR9 := Hid.mk' hr9
              have HB9 := Hid.mk' ((hb9.mono HBK.out.size).trans (hbA.mono (Nat.le_trans HBK.out.size hb9.size)))
              have HBA := Hid.mk' hbA
              clear hr9 hb9 CF hbA
              go_wp2_with fail
              refine CW.mono ?_
              rintro e w10 ⟨rfl, hb10⟩
              have HF1 := Hid.mk' ((HR9.out.below (HBA.out.trans (hb10.mono (by simp))) (Nat.le_refl _)).mono (HBA.out.trans (hb10.mono (by simp))).size)
              have HF2 := Hid.mk' (HBK.out.trans (HB9.out.trans (hb10.mono (Nat.le_trans HBK.out.size HB9.out.size))))
              clear hb10 CW hcell
              go_wp2
              go_roundw
              case rel => exact ⟨4, by omega, by go_num, rfl, HF1.out, HF2.out⟩
              case measure => simp [intOf]
          · have hk4 : k = 4 := by omega
            subst hk4
            have c8 : wr.cell? ⟨w6.heap.size, 0, none⟩ = some (.int .i64 8) := cell_of_row wr w6.heap.size 0 _ _ _ ((hb.block _ hz8).trans HG8.out)
            have HBK := Hid.mk' hb
            clear hr hb HR8
            go_wp2
            go_ret
            exact ⟨rfl, HBF.out.trans (HBK.out.mono HBF.out.size)⟩
  · go_enter Try.func6, Try.ntmps6
    go_wp2_with fail
    refine CN.mono ?_
    rintro e w1 ⟨rfl, hb1⟩
    have CT := Take_ok (.slice none 0 0) [] nm 9 true w1 _ (HN0.out w1) (Nat.le_refl _) (by omega) F1.out.1
    rw [F1.out.2] at CT
    simp only [replyV] at CT
    go_wp2_with fail
    refine CT.mono ?_
    rintro e w2 ⟨v2, rfl, hr2, hb2⟩
    have HB2 := Hid.mk' (hb1.trans (hb2.mono hb1.size))
    clear CT hb1 hb2
    go_wp2_with fail
    refine (CP _).mono ?_
    rintro e w3 ⟨rfl, rfl⟩
    go_wp2
    obtain ⟨W, hW⟩ : ∃ W, W = ((w2.alloc (.cells #[.int .i64 0, .int .i64 1, .string ⟨#[]⟩] 37)).alloc (.cells #[.int .i64 3, .int .i64 1, .int .i64 2] 3)) := ⟨_, rfl⟩
    rw [← hW]
    have gO : W.heap[w2.heap.size + 1]? = some (.cells #[.int .i64 3, .int .i64 1, .int .i64 2] 3 (0, 0)) := by
      have := heap_alloc_new (w2.alloc (.cells #[.int .i64 0, .int .i64 1, .string ⟨#[]⟩] 37)) (.cells #[.int .i64 3, .int .i64 1, .int .i64 2] 3)
      rw [hW]; simpa using this
    have hbW : Below w2.heap.size w2 W := by rw [hW]; exact ((Below.refl _ _).alloc (Nat.le_refl _) _).alloc (by simp) _
    have HR : Hid (LocksR W W.heap.size v2 (waitL nm (1 + 2) 0)) := (hr2.below hbW (Nat.le_refl _)).mono hbW.size
    have HBW := Hid.mk' (HB2.out.trans (hbW.mono HB2.out.size))
    have hzW : w2.heap.size + 2 ≤ W.heap.size := by rw [hW]; simp
    have HO : Hid (∀ (k : Nat) (x : Int), (ordZ (1 + 2))[k]? = some x → W.cell? ⟨w2.heap.size + 1, k, none⟩ = some (.int .i64 x)) := fun k x hx => by
      match k with
      | 0 => cases (show some (3 : Int) = some x from hx); exact cell_of_row W (w2.heap.size + 1) 0 _ _ _ gO
      | 1 => cases (show some (1 : Int) = some x from hx); exact cell_of_row W (w2.heap.size + 1) 1 _ _ _ gO
      | 2 => cases (show some (2 : Int) = some x from hx); exact cell_of_row W (w2.heap.size + 1) 2 _ _ _ gO
      | k + 3 => cases (show (none : Option Int) = some x from hx)
    clear hW hr2 hbW gO
    go_loopw [6, 55] (fun al i wr => ∃ k : Nat, k ≤ 3 ∧ i = .int .i64 k ∧ LocksR wr wr.heap.size al (waitL nm (1 + 2) k) ∧ Below W.heap.size W wr) (fun _ i _ => 3 - (intOf i).toNat)
    case atStart => exact ⟨0, by omega, rfl, HR.out, Below.refl _ _⟩
    case round =>
      obtain ⟨k, hk, rfl, hr, hb⟩ := hrel
      by_cases hlt : k < 3
      · obtain ⟨x, hx, -⟩ := ordZ_at (1 + 2) k hlt
        have hcell : wr.cell? ⟨w2.heap.size + 1, k, none⟩ = some (.int .i64 x) := (hb.cell (p := ⟨w2.heap.size + 1, k, none⟩) (by show w2.heap.size + 1 < W.heap.size; omega)).trans (HO.out k x hx)
        have CT := Take_ok _ _ nm x true wr _ hr (Nat.le_refl _) (by omega) (F3.out k x hx).1
        rw [(F3.out k x hx).2] at CT
        simp only [replyV] at CT
        have HBK := Hid.mk' hb
        clear hx hr hb HR
        go_wp2_with fail
        refine CT.mono ?_
        rintro e w5 ⟨v5, rfl, hr5, hb5⟩
        have hbA : Below w5.heap.size w5 (w5.alloc (.cells #[.int .i64 10, .int .i64 9, .string ⟨#[]⟩] 37)) := (Below.refl _ _).alloc (Nat.le_refl _) _
        have HF1 := Hid.mk' ((hr5.below hbA (Nat.le_refl _)).mono hbA.size)
        have HF2 := Hid.mk' (HBK.out.trans ((hb5.mono HBK.out.size).trans (hbA.mono (Nat.le_trans HBK.out.size hb5.size))))
        clear hr5 hb5 hbA CT hcell
        go_wp2
        go_roundw
        case rel => exact ⟨k + 1, by omega, by go_num, HF1.out, HF2.out⟩
        case measure => simp [intOf]; omega
      · have hk3 : k = 3 := by omega
        subst hk3
        have CT := Take_ok _ _ nm 8 true wr _ hr (Nat.le_refl _) (by omega) F2.out.1
        rw [F2.out.2] at CT
        simp only [replyV] at CT
        have HRK := Hid.mk' hr
        have HBK := Hid.mk' hb
        clear hr hb HR
        go_wp2_with fail
        refine CT.mono ?_
        rintro e w6 ⟨v6, rfl, -, hb6⟩
        obtain ⟨A6, hA6⟩ : ∃ A6, A6 = w6.alloc (.cells #[.int .i64 8, .int .i64 0, .string ⟨#[]⟩] 37) := ⟨_, rfl⟩
        have g6 : A6.heap[w6.heap.size]? = some (.cells #[.int .i64 8, .int .i64 0, .string ⟨#[]⟩] 37 (0, 0)) := by rw [hA6]; exact heap_alloc_new w6 _
        have hbA : Below w6.heap.size w6 A6 := by rw [hA6]; exact (Below.refl _ _).alloc (Nat.le_refl _) _
        have hz6 : w6.heap.size < A6.heap.size := lt_of_block g6
        have hbWA : Below W.heap.size W A6 := HBK.out.trans ((hb6.mono HBK.out.size).trans (hbA.mono (Nat.le_trans HBK.out.size hb6.size)))
        have hrA := HRK.out.below (hb6.trans (hbA.mono hb6.size)) (Nat.le_refl _)
        have hzA : wr.heap.size ≤ A6.heap.size := by have := hb6.size; omega
        have hOA : IntsR A6 A6.heap.size (.slice (some ⟨w2.heap.size + 1, 0, none⟩) 3 3) (ordZ (1 + 2)) := ⟨_, _, rfl, by decide, by decide, (fun h => by cases h), fun _ => ⟨_, _, rfl, by have := hbWA.size; omega, fun j y hj => by
          rw [Nat.zero_add]
          exact (hbWA.cell (p := ⟨w2.heap.size + 1, j, none⟩) (by show w2.heap.size + 1 < W.heap.size; omega)).trans (HO.out j y hj)⟩⟩
        have CC6 := cloneInts _ (ordZ (1 + 2)) A6 _ hOA (Nat.le_refl _)
        have G6 := Hid.mk' g6
        have HA6 := Hid.mk' hA6
        have HWA := Hid.mk' hbWA
        have HRA := Hid.mk' hrA
        rw [hA6] at CC6
        clear hbA hbWA hrA hOA g6 hA6 hb6 CT
        go_wp2_with fail
        refine CC6.mono ?_
        rw [← HA6.out]
        rintro e w7 ⟨v7, rfl, hown7, hb7⟩
        have HO7 := Hid.mk' hown7
        obtain ⟨vo, vc, rfl⟩ := ownsRow_shape hown7
        have hz7 : A6.heap.size ≤ w7.heap.size := hb7.size
        clear CC6 hown7
        go_wp2_with (at_builtin; refine wpList_append_own _ rfl (.tmp 89) (.tmp 90) 43 rfl A6.heap.size 3 i0 (.int .i64 0) 1 8 Try.underlying43 hi hz0 hz1 hz2 rfl (by decide) _ _ _ rfl (HO7.out.alloc _) ⟨w7.heap.size, 0, none⟩ 1 1 [.int .i64 0] rfl rfl (cell_one_new _ _ _) (by intro u hu; simp at hu; subst hu; rfl) (by unfold maxLen; decide) (by decide) (by simp; omega) ?_)
        intro v8 w8 hown8 hg8 _
        have hB8 : Below A6.heap.size A6 w8 := (hb7.alloc hz7 _).grown hg8 (by simp; omega) (fun c hc => (HO7.out.lt c hc).1)
        obtain ⟨b, off, cap, rfl, hcap, hbb, hcc⟩ : ∃ b off cap, v8 = .slice (some ⟨b, off, none⟩) 4 cap ∧ 4 ≤ cap ∧ b < w8.heap.size ∧ ∀ (k : Nat) (x : Int), (ordZ (1 + 2) ++ [0])[k]? = some x → w8.cell? ⟨b, off + k, none⟩ = some (.int .i64 x) := by
          have h8 : w8.ownsRow A6.heap.size 3 1 v8 (ordZ (1 + 2) ++ [0]).length (intCells (ordZ (1 + 2) ++ [0])) := by simpa [intCells] using hown8
          obtain ⟨ao, cap, e8, q1, q2, q3, q4⟩ := ownsRow_ints h8 (by decide) (Nat.le_refl _)
          obtain ⟨b, off, rfl, hbb, hcc⟩ := q4 (by decide)
          exact ⟨b, off, cap, e8, q1, hbb, hcc⟩
        have HQE : Hid (∀ k : Nat, k < 4 → w8.cell? ⟨b, off + k, none⟩ = some (.int .i64 (headZ (1 + 2) (k + 1)))) := fun k hk => by
          match k, hk with
          | 0, _ => exact hcc 0 _ rfl
          | 1, _ => exact hcc 1 _ rfl
          | 2, _ => exact hcc 2 _ rfl
          | 3, _ => exact hcc 3 _ rfl
        have HG8 : Hid (w8.heap[w6.heap.size]? = some (.cells #[.int .i64 8, .int .i64 0, .string ⟨#[]⟩] 37 (0, 0))) := (hB8.block _ hz6).trans G6.out
        have HR8 : Hid (LocksR w8 w8.heap.size _ (passL nm (1 + 2) 0)) := (HRA.out.below hB8 hzA).mono (Nat.le_trans hzA hB8.size)
        have HBF := Hid.mk' (HBW.out.trans ((HWA.out.mono HBW.out.size).trans (hB8.mono (Nat.le_trans HBW.out.size HWA.out.size))))
        have hz8 : w6.heap.size < w8.heap.size := by have := hB8.size; omega
        clear hown8 hg8 hB8 hcc hb7
        go_wp2
        go_loopw [6, 18, 93] (fun al h i wr2 => ∃ k : Nat, k ≤ 4 ∧ i = .int .i64 k ∧ h = .int .i64 (headZ (1 + 2) k) ∧ LocksR wr2 wr2.heap.size al (passL nm (1 + 2) k) ∧ Below w8.heap.size w8 wr2) (fun _ _ i _ => 4 - (intOf i).toNat)
        case atStart => exact ⟨0, by omega, rfl, rfl, HR8.out, Below.refl _ _⟩
        case round =>
          obtain ⟨k, hk, rfl, rfl, hr, hb⟩ := hrel
          by_cases hlt : k < 4
          · obtain ⟨q1, q2, q3, q4⟩ := F4.out k hlt
            have hcell : wr.cell? ⟨b, off + k, none⟩ = some (.int .i64 (headZ (1 + 2) (k + 1))) := (hb.cell (p := ⟨b, off + k, none⟩) hbb).trans (HQE.out k hlt)
            have CF := Free_ok _ _ nm (headZ (1 + 2) k) wr _ hr (Nat.le_refl _) (by omega) q1
            rw [q2] at CF
            simp only [replyV] at CF
            have Q3 := Hid.mk' q3
            have Q4 := Hid.mk' q4
            have HBK := Hid.mk' hb
            clear q1 q2 q3 q4 hr hb HR8
            by_cases h3 : k < 3
            · obtain ⟨x1, x2, x3⟩ := F5.out k h3
              obtain ⟨x, hx⟩ : ∃ x, x = headZ (1 + 2) (k + 1) := ⟨_, rfl⟩
              obtain ⟨hd, hhd⟩ : ∃ hd, hd = headZ (1 + 2) k := ⟨_, rfl⟩
              rw [x3, ← hx] at Q4
              rw [← hx] at hcell CF x1
              rw [← hhd] at CF ⊢
              have hx0 : (x != 0) = true := by simpa using (show ¬ x = 0 by omega)
              have HX := Hid.mk' hx
              clear x1 x2 x3 hx hhd
              go_wp2_with fail
              refine CF.mono ?_
              rintro e w9 ⟨v9, rfl, hr9, hb9⟩
              have hbA : Below w9.heap.size w9 (w9.alloc (.cells #[.int .i64 0, .int .i64 x, .string ⟨#[]⟩] 37)) := (Below.refl _ _).alloc (Nat.le_refl _) _
              have CW := Who_ok v9 _ nm _ w9.heap.size (hr9.below hbA (Nat.le_refl _)) (by simp) Q3.out
              rw [Q4.out] at CW
              simp only at CW
              have HR9 := Hid.mk' hr9
              have HB9 := Hid.mk' ((hb9.mono HBK.out.size).trans (hbA.mono (Nat.le_trans HBK.out.size hb9.size)))
              have HBA := Hid.mk' hbA
              clear hr9 hb9 CF hbA
              go_wp2_with fail
              refine CW.mono ?_
              rintro e w10 ⟨rfl, hb10⟩
              have HF1 := Hid.mk' ((HR9.out.below (HBA.out.trans (hb10.mono (by simp))) (Nat.le_refl _)).mono (HBA.out.trans (hb10.mono (by simp))).size)
              have HF2 := Hid.mk' (HBK.out.trans (HB9.out.trans (hb10.mono (Nat.le_trans HBK.out.size HB9.out.size))))
              clear hb10 CW hcell
              go_wp2
              go_roundw
              case rel => exact ⟨k + 1, by omega, by go_num, by rw [HX.out], HF1.out, HF2.out⟩
              case measure => simp [intOf]; omega
            · have hk3 : k = 3 := by omega
              subst hk3
              have e4 : headZ (1 + 2) (3 + 1) = 0 := rfl
              have Q5 : whoL (passL nm (1 + 2) (3 + 1)) nm = (0, 0) := Q4.out
              obtain ⟨hd, hhd⟩ : ∃ hd, hd = headZ (1 + 2) 3 := ⟨_, rfl⟩
              rw [e4] at hcell CF
              rw [← hhd] at CF ⊢
              have H5 := Hid.mk' Q5
              clear hhd e4 Q4 Q5
              go_wp2_with fail
              refine CF.mono ?_
              rintro e w9 ⟨v9, rfl, hr9, hb9⟩
              have hbA : Below w9.heap.size w9 (w9.alloc (.cells #[.int .i64 0, .int .i64 0, .string ⟨#[]⟩] 37)) := (Below.refl _ _).alloc (Nat.le_refl _) _
              have CW := Who_ok v9 _ nm _ w9.heap.size (hr9.below hbA (Nat.le_refl _)) (by simp) Q3.out
              rw [H5.out] at CW
              simp only at CW
              have HR9 := Hid.mk' hr9
              have HB9 := Hid.mk' ((hb9.mono HBK.out.size).trans (hbA.mono (Nat.le_trans HBK.out.size hb9.size)))
              have HBA := Hid.mk' hbA
              clear hr9 hb9 CF hbA
              go_wp2_with fail
              refine CW.mono ?_
              rintro e w10 ⟨rfl, hb10⟩
              have HF1 := Hid.mk' ((HR9.out.below (HBA.out.trans (hb10.mono (by simp))) (Nat.le_refl _)).mono (HBA.out.trans (hb10.mono (by simp))).size)
              have HF2 := Hid.mk' (HBK.out.trans (HB9.out.trans (hb10.mono (Nat.le_trans HBK.out.size HB9.out.size))))
              clear hb10 CW hcell
              go_wp2
              go_roundw
              case rel => exact ⟨4, by omega, by go_num, rfl, HF1.out, HF2.out⟩
              case measure => simp [intOf]
          · have hk4 : k = 4 := by omega
            subst hk4
            have c8 : wr.cell? ⟨w6.heap.size, 0, none⟩ = some (.int .i64 8) := cell_of_row wr w6.heap.size 0 _ _ _ ((hb.block _ hz8).trans HG8.out)
            have HBK := Hid.mk' hb
            clear hr hb HR8
            go_wp2
            go_ret
            exact ⟨rfl, HBF.out.trans (HBK.out.mono HBF.out.size)⟩

set_option maxRecDepth 100000 in
theorem lifted (os : Os) (started : os.Started) (H : Type) (enc : TypeId × Value → H) :
    ReturnsInHanded {} Try.checked os 6 .any (Rows.linesFairSpec.pre6 enc Try.prog Try.f6 Rows.linesFairRow.domain false) (Rows.linesFairSpec.post enc Try.prog Try.f6 false true false false) := by
  refine returnsInHanded_of_change_sized (C := Try.checked) own started (by kernel_rfl) Try.func6
    (ChangeSpec.witness6 (enc := enc) (C := Try.checked) false ⟨#[], #[.int .i64 0, .int .i64 0], []⟩ 8 (by kernel_rfl) (by kernel_rfl) (by kernel_rfl) (by kernel_rfl)) ?_
  intro W base args ds gs before hval0 hW hcnd hsz _
  have hval : ∀ (j : Nat) t v, Try.f6.params[j]? = some t → args[j]? = some v → Value.okWide Try.prog W .any base t v := hval0
  have hW' := hW
  obtain ⟨p, q, hA0, hV, rfl, hfz, hnd⟩ := hW
  have hA : DataW.TrodAll enc Try.prog W 0 (fun _ => true) true Try.f6.params.toList args.toList ds p := hA0
  rw [Try.params6] at hA hval
  obtain ⟨v0, vs0, d0, ds0, p0, q0, hargs, rfl, rfl, h0, r0⟩ := trodAll_cons hA
  obtain ⟨v1, vs1, d1, ds1, p1, q1, rfl, rfl, rfl, h1, r1⟩ := trodAll_cons r0
  obtain ⟨rfl, rfl, rfl⟩ := trodAll_nil r1
  obtain rfl : args = #[v0, v1] := by cases args; simp_all
  obtain ⟨rfl, rfl⟩ := trodVars_none hV
  simp only [List.append_nil] at hW'
  have lt0 : ∀ x ∈ p0, x.block < W.heap.size := fun x hx => by simpa using hW'.lt x (by simp [hx])
  have lt1 : ∀ x ∈ p1, x.block < W.heap.size := fun x hx => by simpa using hW'.lt x (by simp [hx])
  have k0 := h0
  obtain ⟨a0, rfl, rfl, rfl, w0⟩ := open_int Try.underlying3 (hval 0 3 v0 rfl rfl) h0
  have b0 : -9223372036854775808 ≤ a0 ∧ a0 ≤ 9223372036854775807 := bounds_i64 w0
  have k1 := h1
  obtain ⟨a1, rfl, rfl, rfl, w1⟩ := open_int Try.underlying3 (hval 1 3 v1 rfl rfl) h1
  have b1 : -9223372036854775808 ≤ a1 ∧ a1 ≤ 9223372036854775807 := bounds_i64 w1
  refine (walk W a0 b0 a1 b1).mono fun e W' ⟨he, hg⟩ => ?_
  subst he
  exact ⟨_, rfl, _, _, _, [], [] ++ ([] ++ []), [], hW', trodAll_mk1 (shut_bool Try.underlying4 _), (trodAll_cons_mk (Below.trod laidOut (by kernel_rfl) (of_decide_eq_true (by kernel_rfl)) k0 hg lt0) (trodAll_cons_mk (Below.trod laidOut (by kernel_rfl) (of_decide_eq_true (by kernel_rfl)) k1 hg lt1) trodAll_mk0)), rfl, hg.frame _, fun h => by cases h⟩

theorem over : Rows.linesFairRow.holds Try.pinned (OpenSpec.ofChange Rows.linesFairSpec) :=
  OpenClaim.holds_of_wide 6 Try.f6 rfl rfl rfl rfl rfl rfl rfl ⟨rfl, rfl, rfl, rfl, rfl⟩ rfl rfl rfl rfl rfl (by kernel_rfl) Try.func6 (by kernel_rfl)
    (of_decide_eq_true (by kernel_rfl)) (by unfold Func.isWrapper; first | (rw [if_pos (by decide +kernel)]; kernel_rfl) | (rw [if_neg (by decide +kernel)]; exact ⟨rfl, rfl⟩))
    (fun os started H enc _ => lifted os started H enc)

theorem proved : Rows.LinesFairSaid :=
  over
end Go.Proofs.Ytkmkocbpclkhhac.linesFair
namespace Go.Proofs.Ytkmkocbpclkhhac
theorem linesFair_holds : Rows.LinesFairSaid := linesFair.proved
#print axioms linesFair_holds
end Go.Proofs.Ytkmkocbpclkhhac
