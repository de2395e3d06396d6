/- lock.Copy: the same locks, in memory of their own (joined by program) -/
import Derived.Deep.DeepCutAuto
import Derived.Deep.RegionWith
import Derived.Test.YtijilhbdbeajjaaGreatDoorTT02
namespace Go.Proofs.YtijilhbdbeajjaaGreatDoor

open Go.RowKit

theorem Tryz.infoLock : (Tryz.prog.info? 82).map (fun i => (i.zero, i.size, i.bytes)) = some (some (.agg #[.string ⟨#[]⟩, .int .i64 0, .int .i64 0, .slice none 0 0]), 4, 56) := by kernel_rfl

theorem ownsRow_shape {w : World} {base : Nat} {e : TypeId} {size : Nat} {v : Value} {n : Nat} {xs : List Value} (h : w.ownsRow base e size v n xs) : ∃ ao cap, v = .slice ao n cap := by
  rcases h.2 with ⟨rfl, rfl⟩ | ⟨g, cap, cur, rfl, _⟩
  · exact ⟨none, 0, rfl⟩
  · exact ⟨_, _, rfl⟩

/-- The local lock, its name and its line put anew. -/
theorem copy_cell {wr w1 w2 : World} {xn : ByteArray} {xh xf : Int} {l0 v : Value} {n : Nat} {cs : List Value}
    (hb1 : Below (wr.heap.size + 1) (wr.alloc (.cells #[.string xn, .int .i64 xh, .int .i64 xf, l0] 82)) w1) (hb2 : Below w1.heap.size w1 w2) (hown : w2.ownsRow w1.heap.size 3 1 v n cs) :
    ((w2.setCell ⟨wr.heap.size, 0, none⟩ (.string xn)).setCell ⟨wr.heap.size, 3, none⟩ v).heap[wr.heap.size]? = some (.cells #[.string xn, .int .i64 xh, .int .i64 xf, v] 82 (0, 0)) ∧
    ((w2.setCell ⟨wr.heap.size, 0, none⟩ (.string xn)).setCell ⟨wr.heap.size, 3, none⟩ v).ownsRow (wr.heap.size + 1) 3 1 v n cs ∧
    Below wr.heap.size wr ((w2.setCell ⟨wr.heap.size, 0, none⟩ (.string xn)).setCell ⟨wr.heap.size, 3, none⟩ v) := by
  have hz1 : wr.heap.size + 1 ≤ w1.heap.size := by have := hb1.size; simpa using this
  have g2 : w2.heap[wr.heap.size]? = some (.cells #[.string xn, .int .i64 xh, .int .i64 xf, l0] 82 (0, 0)) := by
    rw [hb2.block _ (by omega), hb1.block _ (by omega)]
    exact heap_alloc_new wr _
  have g3 := heap_setCell_same w2 wr.heap.size 0 _ 82 (.string xn) g2
  have g4 := heap_setCell_same _ wr.heap.size 3 _ 82 v g3
  refine ⟨by simpa using g4, ?_, ?_⟩
  · refine ownsRow_keep (ownsRow_mono hown hz1) fun b hb => ?_
    have := (hown.lt b hb).1
    rw [heap_setCell_other _ _ _ _ (by simp; omega), heap_setCell_other _ _ _ _ (by simp; omega)]
  · exact ((((Below.refl wr.heap.size wr).alloc (Nat.le_refl _) _).trans (hb1.mono (by omega))).trans (hb2.mono (by omega))).setCell (by simp) _ |>.setCell (by simp) _

theorem bcellC {W w1 : World} (hb : Below W.heap.size W w1) : (∀ b o, b < W.heap.size → w1.cell? ⟨b, o, none⟩ = W.cell? ⟨b, o, none⟩) ∧ (∀ b o, b < W.heap.size → w1.frozen? ⟨b, o, none⟩ = W.frozen? ⟨b, o, none⟩) :=
  ⟨fun b o h => hb.cell (p := ⟨b, o, none⟩) h, fun b o h => hb.frozen (p := ⟨b, o, none⟩) h⟩

theorem four_of {α : Type} (Z : List α) (h : 4 ≤ Z.length) : ∃ z0 z1 z2 z3 Z', Z = z0 :: z1 :: z2 :: z3 :: Z' := by
  match Z, h with
  | z0 :: z1 :: z2 :: z3 :: Z', _ => exact ⟨z0, z1, z2, z3, Z', rfl⟩

theorem set4 {α : Type} (A Z : List α) (z0 z1 z2 z3 a b c d : α) (n : Nat) (hA : A.length = n) :
    ((((A ++ z0 :: z1 :: z2 :: z3 :: Z).set n a).set (n + 1) b).set (n + 2) c).set (n + 3) d = A ++ a :: b :: c :: d :: Z := by
  subst hA
  simp

/-- Four cells put into a row. -/
theorem put4_own {w : World} {base : Nat} {e : TypeId} {g n cap k : Nat} {A Z : List Value} {z0 z1 z2 z3 : Value} (h : w.ownsRow base e 4 (.slice (some ⟨g, 0, none⟩) n cap) n (A ++ z0 :: z1 :: z2 :: z3 :: Z)) (hA : A.length = k * 4) (a b c d : Value) :
    ((((w.setCell ⟨g, k * 4, none⟩ a).setCell ⟨g, k * 4 + 1, none⟩ b).setCell ⟨g, k * 4 + 2, none⟩ c).setCell ⟨g, k * 4 + 3, none⟩ d).ownsRow base e 4 (.slice (some ⟨g, 0, none⟩) n cap) n (A ++ a :: b :: c :: d :: Z) := by
  have h1 := (h.stored (k * 4) a).1
  have h2 := (h1.stored (k * 4 + 1) b).1
  have h3 := (h2.stored (k * 4 + 2) c).1
  have h4 := (h3.stored (k * 4 + 3) d).1
  rwa [set4 A Z z0 z1 z2 z3 a b c d (k * 4) hA] at h4

theorem put4_other (w : World) (g k x : Nat) (a b c d : Value) (hx : x ≠ g) :
    ((((w.setCell ⟨g, k * 4, none⟩ a).setCell ⟨g, k * 4 + 1, none⟩ b).setCell ⟨g, k * 4 + 2, none⟩ c).setCell ⟨g, k * 4 + 3, none⟩ d).heap[x]? = w.heap[x]? := by
  rw [heap_setCell_other _ _ _ _ (by simpa using hx), heap_setCell_other _ _ _ _ (by simpa using hx), heap_setCell_other _ _ _ _ (by simpa using hx), heap_setCell_other _ _ _ _ (by simpa using hx)]

theorem put4_below {B : Nat} {w0 w : World} (h : Below B w0 w) {g k : Nat} (hg : B ≤ g) (a b c d : Value) :
    Below B w0 ((((w.setCell ⟨g, k * 4, none⟩ a).setCell ⟨g, k * 4 + 1, none⟩ b).setCell ⟨g, k * 4 + 2, none⟩ c).setCell ⟨g, k * 4 + 3, none⟩ d) :=
  (((h.setCell (by simpa using hg) a).setCell (by simpa using hg) b).setCell (by simpa using hg) c).setCell (by simpa using hg) d

set_option maxRecDepth 100000 in
set_option maxHeartbeats 1600000 in
theorem copy_any (v : Value) (ls : List LockD) (w : World) (B : Nat) (hv : LocksR w B v ls) (hB : B ≤ w.heap.size) :
    Calls Tryz.prog 91 #[v] w fun e w' => e = .returned (.slice (some ⟨w.heap.size, 0, none⟩) ls.length ls.length) ∧ ∃ rs, rs.map (·.1) = ls ∧ OwnL w' w.heap.size (.slice (some ⟨w.heap.size, 0, none⟩) ls.length ls.length) rs ∧ Below w.heap.size w w' := by
  obtain ⟨i0, hi, hz0, hz1, hz2⟩ := info_parts Tryz.infoLock
  obtain ⟨ao, cap, rfl, h1, h2, h3, h4⟩ := hv
  go_enter Tryz.func91, Tryz.ntmps91
  go_wp2_with (at_make; refine wpList_make_full _ rfl (.tmp 7) (.tmp 7) 44 rfl w.heap.size 82 i0 _ 4 Tryz.underlying44 hi hz0 hz1 .i64 .i64 _ _ ls.length rfl rfl rfl rfl (by rw [hz2]; omega) (by unfold maxLen; omega) (Nat.le_refl _) ?_)
  intro w1 hown1 hgrow1
  have hb1 : Below w.heap.size w w1 := (Below.refl _ _).grown hgrow1 (Nat.le_refl _) (fun k hk => by cases hk)
  obtain ⟨Z, HO1, hZl⟩ : ∃ Z : List Value, Hid (w1.ownsRow w.heap.size 82 4 (.slice (some ⟨w.heap.size, 0, none⟩) ls.length ls.length) ls.length Z) ∧ Z.length = ls.length * 4 := ⟨_, hown1, by simp [size_madeCells]⟩
  clear hown1 hgrow1 hi hz0 hz1 hz2
  go_wp2_with fail
  go_loopw [11] (fun i wr => ∃ (k : Nat) (rs : List (LockD × Value)) (Z : List Value), k ≤ ls.length ∧ i = .int .i64 k ∧ rs.map (·.1) = ls.take k ∧ Z.length = (ls.length - k) * 4 ∧
      wr.ownsRow w.heap.size 82 4 (.slice (some ⟨w.heap.size, 0, none⟩) ls.length ls.length) ls.length (flat rs ++ Z) ∧ Lines wr w.heap.size rs ∧ w.heap.size ∉ lineBlocks rs ∧ Below w.heap.size w wr)
    (fun i _ => ls.length - (intOf i).toNat)
  case atStart => exact ⟨0, [], Z, Nat.zero_le _, rfl, by simp, by simpa using hZl, by simpa [flat] using HO1.out, Lines.nil _ _, by simp [lineBlocks], hb1⟩
  case round =>
    clear HO1 hb1
    obtain ⟨k, rs, Z, hk, rfl, hrs, hZl, hown, hlines, hg, hb⟩ := hrel
    have HR : Hid (rs.map (·.1) = ls.take k) := hrs
    clear hrs
    by_cases hlt : k < ls.length
    · obtain ⟨b, off, rfl, hbB, hc⟩ := h4 (by omega)
      obtain ⟨x, hx⟩ : ∃ x, ls[k]? = some x := ⟨_, List.getElem?_eq_getElem hlt⟩
      obtain ⟨lv, c0, c1, c2, c3, hl, hs⟩ := (hc k x hx).below hbB hb hB
      have HX : Hid (ls[k]? = some x) := hx
      have HL : Hid (∀ w', Below wr.heap.size wr w' → IntsR w' B lv x.line) := fun w' h => hl.below h (by have := hb.size; omega)
      obtain ⟨lo, lc, rfl, hl1, hl2, -⟩ := hl
      have hsz := hb.size
      clear hx hc h4
      obtain ⟨xn, xh, xf, xl⟩ := x
      simp only at c0 c1 c2 c3 hs HL hl1 hl2
      have HO : Hid (wr.ownsRow w.heap.size 82 4 (.slice (some ⟨w.heap.size, 0, none⟩) ls.length ls.length) ls.length (flat rs ++ Z)) := hown
      have HLi : Hid (Lines wr w.heap.size rs) := hlines
      have HG : Hid (w.heap.size ∉ lineBlocks rs) := hg
      clear hown hlines hg
      go_upto_region 5 with fail
      go_cut [5] (fun p wx => p = .pointer (some ⟨wr.heap.size, 0, none⟩) ∧ ∃ v', wx.heap[wr.heap.size]? = some (.cells #[.string xn, .int .i64 xh, .int .i64 xf, v'] 82 (0, 0)) ∧ wx.ownsRow (wr.heap.size + 1) 3 1 v' xl.length (intCells xl) ∧ Below wr.heap.size wr wx)
      case first =>
        go_region_with (first
          | (go_at_call 134; refine (clone_any xn _ (by omega)).mono ?_; rintro e w1 ⟨rfl, hb1⟩; obtain ⟨hc1, hf1⟩ := bcellC hb1; have hz1 : wr.heap.size < w1.heap.size := by (have := hb1.size; simp at this; omega))
          | (go_at_call 135; refine (cloneInts _ xl _ B (HL.out _ (((Below.refl wr.heap.size wr).alloc (Nat.le_refl _) _).drew.trans (hb1.mono (by simp)))) (by omega)).mono ?_; rintro e w2 ⟨v2, rfl, hown2, hb2⟩; obtain ⟨vo, vc, rfl⟩ := ownsRow_shape hown2; obtain ⟨hc2, hf2⟩ := bcellC hb2))
        all_goals
          go_wp2
          go_meet
          have hb1' : Below (wr.heap.size + 1) (wr.alloc (.cells #[.string xn, .int .i64 xh, .int .i64 xf, .slice lo xl.length lc] 82)) w1 := ⟨hb1.os, hb1.tape, hb1.output, hb1.size, fun k hk => hb1.block k (by simpa using hk)⟩
          have K := copy_cell hb1' hb2 hown2
          exact ⟨rfl, _, K.1, K.2.1, K.2.2⟩
      case rest =>
        obtain ⟨rfl, v', hX, hown', hb'⟩ := hcut
        have HV : Hid (wc.ownsRow (wr.heap.size + 1) 3 1 v' xl.length (intCells xl)) := hown'
        obtain ⟨vo, vc, rfl⟩ := ownsRow_shape hown'
        obtain ⟨z0, z1, z2, z3, Z', hZe⟩ := four_of Z (by omega)
        subst hZe
        · skip
          have x0 := cell_of_row wc wr.heap.size 0 _ _ _ hX
          have x1 := cell_of_row wc wr.heap.size 1 _ _ _ hX
          have x2 := cell_of_row wc wr.heap.size 2 _ _ _ hX
          have x3 := cell_of_row wc wr.heap.size 3 _ _ _ hX
          simp only [List.getElem?_toArray, List.getElem?_cons_zero, List.getElem?_cons_succ] at x0 x1 x2 x3
          have hrw := ownsRow_below HO.out hb' (Nat.le_refl _)
          have hkl : (flat rs).length = k * 4 := by rw [flat_length, ← List.length_map (f := (·.1)), HR.out, List.length_take]; omega
          have y : ∀ j z, (z0 :: z1 :: z2 :: z3 :: Z')[j]? = some z → j < 4 → wc.cell? ⟨w.heap.size, k * 4 + j, none⟩ = some z := fun j z hz hj => by
            rw [hrw.cellAt (k * 4 + j) (by omega), List.getElem?_append_right (by omega), hkl, show k * 4 + j - k * 4 = j by omega]
            exact hz
          have y0 := y 0 z0 rfl (by omega)
          have y1 := y 1 z1 rfl (by omega)
          have y2 := y 2 z2 rfl (by omega)
          have y3 := y 3 z3 rfl (by omega)
          rw [Nat.add_zero] at y0
          have yf : ∀ j, wc.frozen? ⟨w.heap.size, j, none⟩ = false := fun j => hrw.frozenAt j
          have HW : Hid (wc.ownsRow w.heap.size 82 4 (.slice (some ⟨w.heap.size, 0, none⟩) ls.length ls.length) ls.length (flat rs ++ z0 :: z1 :: z2 :: z3 :: Z')) := hrw
          have HLq : Hid (∀ b ∈ lineBlocks rs, b < wr.heap.size) := fun b hbk => (HLi.out.lt hbk).2
          have HLc : Hid (Lines wc w.heap.size rs) := HLi.out.below hb' (Nat.le_refl _)
          have HB : Hid (Below wr.heap.size wr wc) := hb'
          have hwg : w.heap.size < wr.heap.size := (HO.out.lt _ rfl).2
          clear hrw hX hown' y HO HLi hb' c0 c1 c2 c3 HL
          go_wp2
          go_roundw
          case rel =>
            have hneb : ∀ b, (Value.slice vo xl.length vc).ownBlock = some b → wr.heap.size < b := fun b hbk => (HV.out.lt b hbk).1
            have hlr : ∀ b ∈ lineBlocks rs, b < wr.heap.size := fun b hbk => HLq.out b hbk
            refine ⟨k + 1, rs ++ [(⟨xn, xh, xf, xl⟩, .slice vo xl.length vc)], Z', by omega, by go_num, ?_, ?_, ?_, ?_, ?_, ?_⟩
            · rw [List.map_append, HR.out, List.take_succ_eq_append_getElem hlt]
              have := (List.getElem?_eq_some_iff.1 HX.out).2
              simp [this]
            · simp at hZl; omega
            · have := put4_own HW.out hkl (.string xn) (.int .i64 xh) (.int .i64 xf) (.slice vo xl.length vc)
              rw [flat_snoc]
              simpa [lockCells] using this
            · refine Lines.snoc (HLc.out.keep fun b hbk => put4_other _ _ _ _ _ _ _ _ (by have := hlr b hbk; intro e; subst e; exact HG.out hbk)) ?_ hl2 hs ?_
              · exact ownsRow_keep (ownsRow_mono HV.out (by omega)) fun b hbk => put4_other _ _ _ _ _ _ _ _ (by have := hneb b hbk; omega)
              · intro b hbk hin
                have := hneb b hbk
                have := hlr b hin
                omega
            · rw [lineBlocks_snoc, List.mem_append]
              rintro (h | h)
              · exact HG.out h
              · have := hneb w.heap.size (by simpa using h)
                omega
            · exact put4_below (hb.trans (HB.out.mono (by omega))) (Nat.le_refl _) _ _ _ _
          case measure => simp [intOf]; omega
    · have hkl : k = ls.length := by omega
      subst hkl
      have hZ0 : Z = [] := List.eq_nil_of_length_eq_zero (by omega)
      subst hZ0
      have HO : Hid (OwnL wr w.heap.size (.slice (some ⟨w.heap.size, 0, none⟩) ls.length ls.length) rs) := by
        have hrl : rs.length = ls.length := by
          have := congrArg List.length HR.out
          simpa using this
        refine ⟨?_, hlines, ?_, by omega⟩
        · rw [hrl]; simpa using hown
        · intro b hbk e
          have : w.heap.size = b := by simpa [Value.ownBlock] using e
          subst this
          exact hg hbk
      clear hown hlines hg h4
      go_wp2
      go_ret
      exact ⟨rfl, rs, by rw [HR.out, List.take_of_length_le (Nat.le_refl _)], HO.out, hb⟩

end Go.Proofs.YtijilhbdbeajjaaGreatDoor
