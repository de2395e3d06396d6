/- machine.copyPairs: the same pairs, in memory of their own. (The walk is that of pair.clone.) (joined by program) -/
import Derived.Test.YtijilhbdbeajjaaGreatDoorTT09
namespace Go.Proofs.YtijilhbdbeajjaaGreatDoor

open Go.RowKit

set_option maxRecDepth 100000 in
set_option maxHeartbeats 1600000 in
theorem mcopyPairs_any (v : Value) (ps : List PairD) (w : World) (B : Nat) (hv : PairsR w B v ps) (hB : B ≤ w.heap.size) :
    Calls Tryz.prog 92 #[v] w fun e w' => e = .returned (.slice (some ⟨w.heap.size, 0, none⟩) ps.length ps.length) ∧ w'.ownsRow w.heap.size 89 3 (.slice (some ⟨w.heap.size, 0, none⟩) ps.length ps.length) ps.length (flatP ps) ∧ Below w.heap.size w w' := by
  obtain ⟨i0, hi, hz0, hz1, hz2⟩ := info_parts Tryz.infoPair
  obtain ⟨ao, cap, rfl, h1, h2, h3, h4⟩ := hv
  go_enter Tryz.func92, Tryz.ntmps92
  go_wp2_with (at_make; refine wpList_make_full _ rfl (.tmp 7) (.tmp 7) 45 rfl w.heap.size 89 i0 _ 3 Tryz.underlying45 hi hz0 hz1 .i64 .i64 _ _ ps.length rfl rfl rfl rfl (by rw [hz2]; omega) (by unfold maxLen; omega) (Nat.le_refl _) ?_)
  intro w1 hown1 hgrow1
  have hb1 : Below w.heap.size w w1 := (Below.refl _ _).grown hgrow1 (Nat.le_refl _) (fun k hk => by cases hk)
  obtain ⟨Z, HO1, hZl⟩ : ∃ Z : List Value, Hid (w1.ownsRow w.heap.size 89 3 (.slice (some ⟨w.heap.size, 0, none⟩) ps.length ps.length) ps.length Z) ∧ Z.length = ps.length * 3 := ⟨_, hown1, by simp [size_madeCells]⟩
  clear hown1 hgrow1 hi hz0 hz1 hz2
  go_wp2_with fail
  go_loopw [11] (fun i wr => ∃ (k : Nat) (Z : List Value), k ≤ ps.length ∧ i = .int .i64 k ∧ Z.length = (ps.length - k) * 3 ∧
      wr.ownsRow w.heap.size 89 3 (.slice (some ⟨w.heap.size, 0, none⟩) ps.length ps.length) ps.length (flatP (ps.take k) ++ Z) ∧ Below w.heap.size w wr)
    (fun i _ => ps.length - (intOf i).toNat)
  case atStart => exact ⟨0, Z, Nat.zero_le _, rfl, by simpa using hZl, by simpa [flatP] using HO1.out, hb1⟩
  case round =>
    clear HO1 hb1
    obtain ⟨k, Z, hk, rfl, hZl, hown, hb⟩ := hrel
    by_cases hlt : k < ps.length
    · obtain ⟨b, off, rfl, hbB, hc⟩ := h4 (by omega)
      obtain ⟨x, hx⟩ : ∃ x, ps[k]? = some x := ⟨_, List.getElem?_eq_getElem hlt⟩
      obtain ⟨c0, c1, c2, hs0, hs1, -⟩ := (hc k x hx).below (by omega) hb
      have HX : Hid (flatP (ps.take (k + 1)) = flatP (ps.take k) ++ pairCells x) := by
        unfold Hid
        rw [List.take_succ_eq_append_getElem hlt, flatP_snoc, (List.getElem?_eq_some_iff.1 hx).2]
      have hsz := hb.size
      clear hx hc h4
      obtain ⟨xn, xv, xe⟩ := x
      simp only at c0 c1 c2 hs0 hs1
      have HO : Hid (wr.ownsRow w.heap.size 89 3 (.slice (some ⟨w.heap.size, 0, none⟩) ps.length ps.length) ps.length (flatP (ps.take k) ++ Z)) := hown
      clear hown
      go_upto_region 5 with fail
      go_cut [5] (fun p wx => p = .pointer (some ⟨wr.heap.size, 0, none⟩) ∧ wx.heap[wr.heap.size]? = some (.cells #[.string xn, .string xv, .int .i64 xe] 89 (0, 0)) ∧ Below wr.heap.size wr wx)
      case first =>
        go_region_with (first
          | (go_at_call_of 134 xn; refine (clone_any xn _ (by omega)).mono ?_; rintro e w1 ⟨rfl, hb1⟩; obtain ⟨hc1, hf1⟩ := pbcell hb1; have hz1 : wr.heap.size < w1.heap.size := by (have := hb1.size; simp at this; omega))
          | (go_at_call_of 134 xv; refine (clone_any xv _ (by omega)).mono ?_; rintro e w2 ⟨rfl, hb2⟩; obtain ⟨hc2, hf2⟩ := pbcell hb2; have hz2 : wr.heap.size < w2.heap.size := Nat.lt_of_lt_of_le hz1 hb2.size))
        all_goals
          go_wp2
          go_meet
          have hb1' : Below (wr.heap.size + 1) (wr.alloc (.cells #[.string xn, .string xv, .int .i64 xe] 89)) w1 := ⟨hb1.os, hb1.tape, hb1.output, hb1.size, fun k hk => hb1.block k (by simpa using hk)⟩
          have K := pclone_cell hb1' hb2
          exact ⟨rfl, K.1, K.2⟩
      case rest =>
        obtain ⟨rfl, hX, hb'⟩ := hcut
        obtain ⟨z0, z1, z2, Z', hZe⟩ := three_of Z (by omega)
        subst hZe
        · skip
          have x0 := cell_of_row wc wr.heap.size 0 _ _ _ hX
          have x1 := cell_of_row wc wr.heap.size 1 _ _ _ hX
          have x2 := cell_of_row wc wr.heap.size 2 _ _ _ hX
          simp only [List.getElem?_toArray, List.getElem?_cons_zero, List.getElem?_cons_succ] at x0 x1 x2
          have hrw := prow_below HO.out hb' (Nat.le_refl _)
          have hkl : (flatP (ps.take k)).length = k * 3 := by rw [flatP_length, List.length_take]; omega
          have y : ∀ j z, (z0 :: z1 :: z2 :: Z')[j]? = some z → j < 3 → wc.cell? ⟨w.heap.size, k * 3 + j, none⟩ = some z := fun j z hz hj => by
            rw [hrw.cellAt (k * 3 + j) (by omega), List.getElem?_append_right (by omega), hkl, show k * 3 + j - k * 3 = j by omega]
            exact hz
          have y0 := y 0 z0 rfl (by omega)
          have y1 := y 1 z1 rfl (by omega)
          have y2 := y 2 z2 rfl (by omega)
          rw [Nat.add_zero] at y0
          have yf : ∀ j, wc.frozen? ⟨w.heap.size, j, none⟩ = false := fun j => hrw.frozenAt j
          have HW := phid (put3_own hrw hkl (.string xn) (.string xv) (.int .i64 xe))
          have HB := phid (put3_below (k := k) (hb.trans (hb'.mono hsz)) (Nat.le_refl _) (.string xn) (.string xv) (.int .i64 xe))
          have hwg : w.heap.size < wr.heap.size := (HO.out.lt _ rfl).2
          clear hrw hX y HO hb' c0 c1 c2 hkl hb
          go_wp2
          go_roundw
          case rel =>
            refine ⟨k + 1, Z', by omega, by go_num, by simp at hZl; omega, ?_, HB.out⟩
            rw [HX.out]
            simpa [pairCells] using HW.out
          case measure => simp [intOf]; omega
    · have hkl : k = ps.length := by omega
      subst hkl
      have hZ0 : Z = [] := List.eq_nil_of_length_eq_zero (by omega)
      subst hZ0
      have HO : Hid (wr.ownsRow w.heap.size 89 3 (.slice (some ⟨w.heap.size, 0, none⟩) ps.length ps.length) ps.length (flatP ps)) := by
        unfold Hid
        simpa using hown
      clear hown h4
      go_wp2
      go_ret
      exact ⟨rfl, HO.out, hb⟩

end Go.Proofs.YtijilhbdbeajjaaGreatDoor
