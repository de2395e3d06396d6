/- The document's passed: a lock that is given up. -/
import Derived.Test.YtkmkocbpclkhhacRefPassed
import Derived.Test.YtkmkocbpclkhhacLockGive
namespace Go.Proofs.Ytkmkocbpclkhhac
open Go.RowKit

theorem below4 {B : Nat} {w w1 : World} (h : Below B w w1) {b : Nat} (hb : B ≤ b) (x y z u : Value) : Below B w ((((w1.setCell ⟨b, 0, none⟩ x).setCell ⟨b, 1, none⟩ y).setCell ⟨b, 2, none⟩ z).setCell ⟨b, 3, none⟩ u) :=
  (((h.setCell (by exact hb) x).setCell (by exact hb) y).setCell (by exact hb) z).setCell (by exact hb) u

theorem ownsRow_far {w : World} {base : Nat} {e : TypeId} {size n : Nat} {v : Value} {xs : List Value} (h : w.ownsRow base e size v n xs) {a : Addr} (ha : v.ownBlock ≠ some a.block) (u : Value) : (w.setCell a u).ownsRow base e size v n xs :=
  ownsRow_keep h fun b hb => heap_setCell_other _ _ _ _ (fun e => ha (by rw [hb, e]))

set_option maxRecDepth 100000 in
set_option maxHeartbeats 3200000 in
theorem passed_none (xn : ByteArray) (xh xf : Int) (xl : List Int) (lv : Value) (w : World) (B : Nat) (hlv : IntsR w B lv xl) (hy : xl = [] ∨ xf = 1073741824) :
    Calls Try.prog 28 #[.agg #[.string xn, .int .i64 xh, .int .i64 xf, lv]] w fun e w' => e = .returned (.agg #[.string xn, .int .i64 0, .int .i64 xf, .slice none 0 0]) ∧ Below w.heap.size w w' := by
  obtain ⟨lo, lc, rfl, -⟩ := hlv
  have HB : Hid (∀ o1 o2, Below w.heap.size w ((w.alloc o1).alloc o2)) := fun o1 o2 => ((Below.refl _ _).alloc (Nat.le_refl _) _).alloc (by simp) _
  rcases hy with rfl | rfl
  · go_enter Try.func28, Try.ntmps28
    go_wp2
    refine bodyPost_ret (v := .agg #[.string xn, .int .i64 0, .int .i64 xf, .slice none 0 0]) (by simp [results, Try.results28, go_sem]) rfl ⟨rfl, ?_⟩
    exact HB.out _ _
  · by_cases h0 : xl.length = 0
    · have h00 : ((xl.length : Int) == 0) = true := by rw [h0]; rfl
      go_enter Try.func28, Try.ntmps28
      go_wp2
      refine bodyPost_ret (v := .agg #[.string xn, .int .i64 0, .int .i64 1073741824, .slice none 0 0]) (by simp [results, Try.results28, go_sem]) rfl ⟨rfl, ?_⟩
      exact HB.out _ _
    · have h00 : ((xl.length : Int) == 0) = false := by simpa using (show ¬ (xl.length : Int) = 0 by omega)
      go_enter Try.func28, Try.ntmps28
      go_wp2
      refine bodyPost_ret (v := .agg #[.string xn, .int .i64 0, .int .i64 1073741824, .slice none 0 0]) (by simp [results, Try.results28, go_sem]) rfl ⟨rfl, ?_⟩
      exact HB.out _ _

set_option maxRecDepth 100000 in
set_option maxHeartbeats 3200000 in
theorem passed_one (xn : ByteArray) (xh xf a : Int) (t : List Int) (b off lc : Nat) (w : World) (h1 : t.length + 1 ≤ lc) (h2 : t.length < 4) (hb : b < w.heap.size) (hc : ∀ (k : Nat) (y : Int), (a :: t)[k]? = some y → w.cell? ⟨b, off + k, none⟩ = some (.int .i64 y)) (f1 : 1 ≤ xf) (f2 : xf < 1073741824) :
    Calls Try.prog 28 #[.agg #[.string xn, .int .i64 xh, .int .i64 xf, .slice (some ⟨b, off, none⟩) (t.length + 1) lc]] w fun e w' => ∃ lv, e = .returned (.agg #[.string xn, .int .i64 a, .int .i64 (xf + 1), lv]) ∧ w'.ownsRow w.heap.size 3 1 lv t.length (intCells t) ∧ Below w.heap.size w w' := by
  obtain ⟨j0, hj, hy0, hy1, hy2⟩ := info_parts Try.infoInt
  have c0 : w.cell? ⟨b, off, none⟩ = some (.int .i64 a) := hc 0 a rfl
  have HC := Hid.mk' hc
  clear hc
  have hq1 : ((t.length : Int) + 1 == 0) = false := by simpa using (show ¬ ((t.length : Int) + 1 = 0) by omega)
  have hq2 : ¬ (1073741824 ≤ xf) := by omega
  go_enter Try.func28, Try.ntmps28
  go_wp2_with fail
  obtain ⟨W0, hW0⟩ : ∃ W0, W0 = ((w.alloc (.cells #[.string xn, .int .i64 xh, .int .i64 xf, .slice (some ⟨b, off, none⟩) (t.length + 1) lc] 47)).alloc (.cells #[.string ⟨#[]⟩, .int .i64 0, .int .i64 0, .slice none 0 0] 47)) := ⟨_, rfl⟩
  rw [← hW0]
  have hz0 : W0.heap.size = w.heap.size + 2 := by rw [hW0]; simp
  have hbW : Below w.heap.size w W0 := by rw [hW0]; exact ((Below.refl _ _).alloc (Nat.le_refl _) _).alloc (by simp) _
  have g1 : W0.heap[w.heap.size]? = some (.cells #[.string xn, .int .i64 xh, .int .i64 xf, .slice (some ⟨b, off, none⟩) (t.length + 1) lc] 47 (0, 0)) := by rw [hW0, Below.heap_alloc _ _ _ (by simp)]; exact heap_alloc_new w _
  have g2 : W0.heap[w.heap.size + 1]? = some (.cells #[.string ⟨#[]⟩, .int .i64 0, .int .i64 0, .slice none 0 0] 47 (0, 0)) := by
    have := heap_alloc_new (w.alloc (.cells #[.string xn, .int .i64 xh, .int .i64 xf, .slice (some ⟨b, off, none⟩) (t.length + 1) lc] 47)) (.cells #[.string ⟨#[]⟩, .int .i64 0, .int .i64 0, .slice none 0 0] 47)
    rw [hW0]; simpa using this
  have y0 : W0.cell? ⟨w.heap.size, 0, none⟩ = some (.string xn) := cell_of_row W0 w.heap.size 0 _ _ _ g1
  have y1 : W0.cell? ⟨w.heap.size, 1, none⟩ = some (.int .i64 xh) := cell_of_row W0 w.heap.size 1 _ _ _ g1
  have y2 : W0.cell? ⟨w.heap.size, 2, none⟩ = some (.int .i64 xf) := cell_of_row W0 w.heap.size 2 _ _ _ g1
  have y3 : W0.cell? ⟨w.heap.size, 3, none⟩ = some (.slice (some ⟨b, off, none⟩) (t.length + 1) lc) := cell_of_row W0 w.heap.size 3 _ _ _ g1
  have z0 : W0.cell? ⟨w.heap.size + 1, 0, none⟩ = some (.string ⟨#[]⟩) := cell_of_row W0 (w.heap.size + 1) 0 _ _ _ g2
  have z1 : W0.cell? ⟨w.heap.size + 1, 1, none⟩ = some (.int .i64 0) := cell_of_row W0 (w.heap.size + 1) 1 _ _ _ g2
  have z2 : W0.cell? ⟨w.heap.size + 1, 2, none⟩ = some (.int .i64 0) := cell_of_row W0 (w.heap.size + 1) 2 _ _ _ g2
  have z3 : W0.cell? ⟨w.heap.size + 1, 3, none⟩ = some (.slice none 0 0) := cell_of_row W0 (w.heap.size + 1) 3 _ _ _ g2
  have zf : ∀ j, W0.frozen? ⟨w.heap.size + 1, j, none⟩ = false := fun j => by unfold World.frozen?; rw [g2]; simp
  have cc : ∀ j, W0.cell? ⟨b, j, none⟩ = w.cell? ⟨b, j, none⟩ := fun j => hbW.cell (p := ⟨b, j, none⟩) hb
  have d0 : W0.cell? ⟨b, off, none⟩ = some (.int .i64 a) := (cc _).trans c0
  have HN2 : Hid (∀ (j : Nat) (u : Value), (intCells t)[j]? = some u → W0.drew.cell? ⟨b, off + 1 + j, none⟩ = some u) := by
    intro j u hu
    obtain ⟨y, hy, rfl⟩ : ∃ y, t[j]? = some y ∧ (Value.int .i64 y) = u := by simpa [intCells, List.getElem?_map] using hu
    have := HC.out (j + 1) y (by simpa using hy)
    rw [← cc, show off + (j + 1) = off + 1 + j by omega] at this
    exact this
  have HZ := Hid.mk' hz0
  have HBW := Hid.mk' hbW
  have hbn : b ≠ w.heap.size + 1 := by omega
  have hbn' : w.heap.size + 1 ≠ b := by omega
  have hwr : IntKind.i64.wrap (xf + 1) = xf + 1 := by rw [IntKind.wrap_i64]; omega
  clear hW0 g1 g2 cc c0 hbW hz0
  by_cases hlc : lc = 1
  · have ht : t = [] := List.eq_nil_of_length_eq_zero (by omega)
    subst ht
    subst hlc
    go_region_held3 (fun w' => w'.cell? ⟨w.heap.size, 0, none⟩ = some (.string xn) ∧ w'.cell? ⟨w.heap.size, 2, none⟩ = some (.int .i64 xf) ∧ w'.cell? ⟨w.heap.size, 3, none⟩ = some (.slice (some ⟨b, off, none⟩) (([] : List Int).length + 1) 1) ∧ w'.cell? ⟨b, off, none⟩ = some (.int .i64 a)) (go_keep)
      (first
        | (refine step_append_fresh rfl _ (.tmp 28) 43 rfl 3 j0 _ 1 8 Try.underlying43 hj hy0 hy1 hy2 rfl (by decide) (by simp [Act.eval]) (some ⟨b, off, none⟩) 0 0 (intCells []) (by simp [Act.eval]) (by intro h; cases h) (by simp [intCells]) (by intro a e j u hu; simp [intCells] at hu) (intCells_one _) (by unfold maxLen; simp) (by simp) ?_; intro v1 w1 hown1 hg1; obtain ⟨vo, vc, rfl⟩ := ownsRow_shape hown1; have hzz : W0.heap.size ≤ w1.heap.size := hg1.size; have kk : ∀ c j, c < w.heap.size + 2 → w1.cell? ⟨c, j, none⟩ = W0.cell? ⟨c, j, none⟩ := fun c j hc => hg1.cell_far ⟨c, j, none⟩ (by have := HZ.out; show c < W0.heap.size; omega) (by intro h; cases h); have kf : ∀ j, w1.frozen? ⟨w.heap.size + 1, j, none⟩ = W0.frozen? ⟨w.heap.size + 1, j, none⟩ := fun j => hg1.frozen_far ⟨w.heap.size + 1, j, none⟩ (by have := HZ.out; show w.heap.size + 1 < W0.heap.size; omega) (by intro h; cases h); have k0 := (kk _ 0 (Nat.lt_succ_self (w.heap.size + 1))).trans z0; have k1 := (kk _ 1 (Nat.lt_succ_self (w.heap.size + 1))).trans z1; have k2 := (kk _ 2 (Nat.lt_succ_self (w.heap.size + 1))).trans z2; have k3 := (kk _ 3 (Nat.lt_succ_self (w.heap.size + 1))).trans z3; have l0 := (kk w.heap.size 0 (by omega)).trans y0; have l2 := (kk w.heap.size 2 (by omega)).trans y2; have l3 := (kk w.heap.size 3 (by omega)).trans y3; have l4 := (kk b off (by omega)).trans d0; have kg : ∀ j, w1.frozen? ⟨w.heap.size + 1, j, none⟩ = false := fun j => (kf j).trans (zf j); clear kk kf))
    have HO := Hid.mk' hown1
    have HG := Hid.mk' hg1
    clear hown1 hg1
    go_wp2
    refine bodyPost_ret (v := .agg #[.string xn, .int .i64 a, .int .i64 (xf + 1), .slice vo 0 vc]) (by simp [results, Try.results28, go_sem, k0, k1, k2, k3]) rfl ⟨_, rfl, ?_, ?_⟩
    · have hne : ∀ j, (Value.slice vo 0 vc).ownBlock ≠ some (⟨w.heap.size + 1, j, none⟩ : Addr).block := fun j e => by
        have h8 : W0.heap.size ≤ w.heap.size + 1 := (HO.out.lt _ e).1
        have := HZ.out
        omega
      exact ownsRow_mono (ownsRow_far (ownsRow_far (ownsRow_far (ownsRow_far HO.out (hne 0) _) (hne 1) _) (hne 2) _) (hne 3) _) (by have := HZ.out; show w.heap.size ≤ W0.heap.size; omega)
    · exact below4 ((HBW.out.drew).grown HG.out (by have := HZ.out; show w.heap.size ≤ W0.heap.size; omega) (fun c hc => by cases hc)) (by omega) _ _ _ _
  · have HN3 : Hid (∀ a' : Addr, some (⟨b, off + 1, none⟩ : Addr) = some a' → ∀ j u, (intCells t)[j]? = some u → W0.drew.cell? (a'.add j) = some u) := by
      intro a' e
      refine intCells_at fun _ => ⟨b, off + 1, by simpa using e.symm, fun i x hx => HN2.out i _ (by simp [intCells, hx])⟩
    have q1 : (1 : Int) ≤ (t.length : Int) + 1 := by omega
    have q2 : (t.length : Int) + 1 ≤ lc := by omega
    have q3 : (1 : Int) ≤ (lc : Int) := by omega
    have q4 : (0 : Int) < (t.length : Int) + 1 := by omega
    go_region_held3 (fun w' => w'.cell? ⟨w.heap.size, 0, none⟩ = some (.string xn) ∧ w'.cell? ⟨w.heap.size, 2, none⟩ = some (.int .i64 xf) ∧ w'.cell? ⟨w.heap.size, 3, none⟩ = some (.slice (some ⟨b, off, none⟩) (t.length + 1) lc) ∧ w'.cell? ⟨b, off, none⟩ = some (.int .i64 a)) (go_keep)
      (first
        | (refine step_append_fresh rfl _ (.tmp 28) 43 rfl 3 j0 _ 1 8 Try.underlying43 hj hy0 hy1 hy2 rfl (by decide) (by simp [Act.eval]) (some ⟨b, off + 1, none⟩) t.length (lc - 1) (intCells t) (by simp [Act.eval]) (by intro h; cases h) (by simp [intCells]) HN3.out (intCells_one _) (by unfold maxLen; omega) (by omega) ?_; intro v1 w1 hown1 hg1; obtain ⟨vo, vc, rfl⟩ := ownsRow_shape hown1; have hzz : W0.heap.size ≤ w1.heap.size := hg1.size; have kk : ∀ c j, c < w.heap.size + 2 → w1.cell? ⟨c, j, none⟩ = W0.cell? ⟨c, j, none⟩ := fun c j hc => hg1.cell_far ⟨c, j, none⟩ (by have := HZ.out; show c < W0.heap.size; omega) (by intro h; cases h); have kf : ∀ j, w1.frozen? ⟨w.heap.size + 1, j, none⟩ = W0.frozen? ⟨w.heap.size + 1, j, none⟩ := fun j => hg1.frozen_far ⟨w.heap.size + 1, j, none⟩ (by have := HZ.out; show w.heap.size + 1 < W0.heap.size; omega) (by intro h; cases h); have k0 := (kk _ 0 (Nat.lt_succ_self (w.heap.size + 1))).trans z0; have k1 := (kk _ 1 (Nat.lt_succ_self (w.heap.size + 1))).trans z1; have k2 := (kk _ 2 (Nat.lt_succ_self (w.heap.size + 1))).trans z2; have k3 := (kk _ 3 (Nat.lt_succ_self (w.heap.size + 1))).trans z3; have l0 := (kk w.heap.size 0 (by omega)).trans y0; have l2 := (kk w.heap.size 2 (by omega)).trans y2; have l3 := (kk w.heap.size 3 (by omega)).trans y3; have l4 := (kk b off (by omega)).trans d0; have kg : ∀ j, w1.frozen? ⟨w.heap.size + 1, j, none⟩ = false := fun j => (kf j).trans (zf j); clear kk kf))
    have HO := Hid.mk' hown1
    have HG := Hid.mk' hg1
    clear hown1 hg1
    go_wp2
    refine bodyPost_ret (v := .agg #[.string xn, .int .i64 a, .int .i64 (xf + 1), .slice vo t.length vc]) (by simp [results, Try.results28, go_sem, k0, k1, k2, k3]) rfl ⟨_, rfl, ?_, ?_⟩
    · have hne : ∀ j, (Value.slice vo t.length vc).ownBlock ≠ some (⟨w.heap.size + 1, j, none⟩ : Addr).block := fun j e => by
        have h8 : W0.heap.size ≤ w.heap.size + 1 := (HO.out.lt _ e).1
        have := HZ.out
        omega
      exact ownsRow_mono (ownsRow_far (ownsRow_far (ownsRow_far (ownsRow_far HO.out (hne 0) _) (hne 1) _) (hne 2) _) (hne 3) _) (by have := HZ.out; show w.heap.size ≤ W0.heap.size; omega)
    · exact below4 ((HBW.out.drew).grown HG.out (by have := HZ.out; show w.heap.size ≤ W0.heap.size; omega) (fun c hc => by cases hc)) (by omega) _ _ _ _

theorem passed_any (x : LockD) (lv : Value) (w : World) (B : Nat) (hlv : IntsR w B lv x.line) (hB : B ≤ w.heap.size) (hl : x.line.length ≤ 4) (f1 : 1 ≤ x.fence) (f2 : x.fence ≤ 1073741824) :
    Calls Try.prog 28 #[.agg #[.string x.name, .int .i64 x.holder, .int .i64 x.fence, lv]] w fun e w' => ∃ lv', e = .returned (.agg #[.string (giveUpX x).name, .int .i64 (giveUpX x).holder, .int .i64 (giveUpX x).fence, lv']) ∧ w'.ownsRow w.heap.size 3 1 lv' (giveUpX x).line.length (intCells (giveUpX x).line) ∧ Below w.heap.size w w' := by
  obtain ⟨xn, xh, xf, xl⟩ := x
  simp only at hlv hl f1 f2
  cases xl with
  | nil => exact (passed_none xn xh xf [] lv w B hlv (Or.inl rfl)).mono (fun e w' h => ⟨_, h.1, World.ownsRow_nil _ _ _ _, h.2⟩)
  | cons a t =>
    by_cases hm : xf = 1073741824
    · have e : giveUpX ⟨xn, xh, xf, a :: t⟩ = ⟨xn, 0, xf, []⟩ := by simp [giveUpX, hm]
      rw [e]
      exact (passed_none xn xh xf _ lv w B hlv (Or.inr hm)).mono (fun e w' h => ⟨_, h.1, World.ownsRow_nil _ _ _ _, h.2⟩)
    · have e : giveUpX ⟨xn, xh, xf, a :: t⟩ = ⟨xn, a, xf + 1, t⟩ := by simp [giveUpX, hm]
      rw [e]
      obtain ⟨lo, lc, rfl, h1, h2, h3, h4⟩ := hlv
      obtain ⟨b, off, rfl, hb, hc⟩ := h4 (by simp)
      simp only [List.length_cons] at h1 hl
      exact passed_one xn xh xf a t b off lc w h1 (by omega) (by omega) hc f1 (by omega)
end Go.Proofs.Ytkmkocbpclkhhac
