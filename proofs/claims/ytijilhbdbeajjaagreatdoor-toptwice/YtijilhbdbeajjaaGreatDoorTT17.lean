/- session.copyReply, session.copyReplies: the same replies, in memory of their own (joined by program) -/
import Derived.Deep.DeepCutAuto
import Derived.Deep.RegionWith
import Derived.Test.YtijilhbdbeajjaaGreatDoorTT16
import Derived.Test.YtijilhbdbeajjaaGreatDoorTT02
namespace Go.Proofs.YtijilhbdbeajjaaGreatDoor

open Go.RowKit

set_option maxHeartbeats 800000 in
theorem copyReply_any (c n : Int) (t : ByteArray) (w : World) (ht : t.size ≤ 140737488351232) :
    Calls Tryz.prog 90 #[.agg #[.int .i64 c, .int .i64 n, .string t]] w fun e w' => e = .returned (.agg #[.int .i64 c, .int .i64 n, .string t]) ∧ Below w.heap.size w w' := by
  go_enter Tryz.func90, Tryz.ntmps90
  go_wp2_with fail
  refine (clone_any t _ (by omega)).mono ?_
  rintro e w1 ⟨rfl, hb1⟩
  obtain ⟨hc1, hf1⟩ := gcell hb1
  have hz1 : w.heap.size + 1 < w1.heap.size := by have := hb1.size; simp at this; omega
  have hz0 : w.heap.size < w1.heap.size := by omega
  have HB := ghid (((((Below.refl w.heap.size w).alloc (Nat.le_refl _) (.cells #[.int .i64 c, .int .i64 n, .string t] 73)).alloc (by simp) (.cells #[.int .i64 0, .int .i64 0, .string ⟨#[]⟩] 73)).trans (hb1.mono (by simp; omega))))
  have g0 : w1.heap[w.heap.size]? = some (.cells #[.int .i64 c, .int .i64 n, .string t] 73 (0, 0)) := (hb1.block _ (by simp; omega)).trans ((Below.heap_alloc _ _ _ (by simp)).trans (heap_alloc_new w _))
  have g1 : w1.heap[w.heap.size + 1]? = some (.cells #[.int .i64 0, .int .i64 0, .string ⟨#[]⟩] 73 (0, 0)) := (hb1.block _ (by simp)).trans (by have := heap_alloc_new (w.alloc (.cells #[.int .i64 c, .int .i64 n, .string t] 73)) (.cells #[.int .i64 0, .int .i64 0, .string ⟨#[]⟩] 73); simpa using this)
  have x0 := cell_of_row w1 w.heap.size 0 _ _ _ g0
  have x1 := cell_of_row w1 w.heap.size 1 _ _ _ g0
  have x2 := cell_of_row w1 w.heap.size 2 _ _ _ g0
  have y0 := cell_of_row w1 (w.heap.size + 1) 0 _ _ _ g1
  have y1 := cell_of_row w1 (w.heap.size + 1) 1 _ _ _ g1
  have y2 := cell_of_row w1 (w.heap.size + 1) 2 _ _ _ g1
  simp only [List.getElem?_toArray, List.getElem?_cons_zero, List.getElem?_cons_succ] at x0 x1 x2 y0 y1 y2
  clear hb1 g0 g1 hc1
  go_wp2
  refine bodyPost_ret (v := .agg #[.int .i64 c, .int .i64 n, .string t]) (by simp [results, Tryz.results90, go_sem, y0, y1, y2]) rfl ?_
  exact ⟨rfl, ((((HB.out.setCell (by simp) _).setCell (by simp) _).setCell (by simp) _).setCell (by simp) _)⟩

theorem set4g {α : Type} (A Z : List α) (z0 z1 z2 z3 a b c d : α) (n : Nat) (hA : A.length = n) :
    ((((A ++ z0 :: z1 :: z2 :: z3 :: Z).set n a).set (n + 1) b).set (n + 2) c).set (n + 3) d = A ++ a :: b :: c :: d :: Z := by
  subst hA
  simp

/-- Four cells put into a row. -/
theorem put4g_own {w : World} {base : Nat} {e : TypeId} {g n cap k : Nat} {A Z : List Value} {z0 z1 z2 z3 : Value} (h : w.ownsRow base e 4 (.slice (some ⟨g, 0, none⟩) n cap) n (A ++ z0 :: z1 :: z2 :: z3 :: Z)) (hA : A.length = k * 4) (a b c d : Value) :
    ((((w.setCell ⟨g, k * 4, none⟩ a).setCell ⟨g, k * 4 + 1, none⟩ b).setCell ⟨g, k * 4 + 2, none⟩ c).setCell ⟨g, k * 4 + 3, none⟩ d).ownsRow base e 4 (.slice (some ⟨g, 0, none⟩) n cap) n (A ++ a :: b :: c :: d :: Z) := by
  have h1 := (h.stored (k * 4) a).1
  have h2 := (h1.stored (k * 4 + 1) b).1
  have h3 := (h2.stored (k * 4 + 2) c).1
  have h4 := (h3.stored (k * 4 + 3) d).1
  rwa [set4g A Z z0 z1 z2 z3 a b c d (k * 4) hA] at h4

theorem put4g_below {B : Nat} {w0 w : World} (h : Below B w0 w) {g k : Nat} (hg : B ≤ g) (a b c d : Value) :
    Below B w0 ((((w.setCell ⟨g, k * 4, none⟩ a).setCell ⟨g, k * 4 + 1, none⟩ b).setCell ⟨g, k * 4 + 2, none⟩ c).setCell ⟨g, k * 4 + 3, none⟩ d) :=
  (((h.setCell (by simpa using hg) a).setCell (by simpa using hg) b).setCell (by simpa using hg) c).setCell (by simpa using hg) d

theorem four_ofg {α : Type} (Z : List α) (h : 4 ≤ Z.length) : ∃ z0 z1 z2 z3 Z', Z = z0 :: z1 :: z2 :: z3 :: Z' := by
  match Z, h with
  | z0 :: z1 :: z2 :: z3 :: Z', _ => exact ⟨z0, z1, z2, z3, Z', rfl⟩

set_option maxRecDepth 100000 in
set_option maxHeartbeats 1600000 in
theorem copyReplies_any (v : Value) (ks : List KeptD) (w : World) (B : Nat) (hv : KeptsR w B v ks) (hB : B ≤ w.heap.size) :
    Calls Tryz.prog 85 #[v] w fun e w' => e = .returned (.slice (some ⟨w.heap.size, 0, none⟩) ks.length ks.length) ∧ OwnK w' w.heap.size (.slice (some ⟨w.heap.size, 0, none⟩) ks.length ks.length) ks ∧ Below w.heap.size w w' := by
  obtain ⟨i0, hi, hz0, hz1, hz2⟩ := info_parts Tryz.infoKept
  have HM := ghid hv.modest
  have hlen := hv.len
  obtain ⟨ao, cap, rfl, h1, h2, h3, h4⟩ := hv
  go_enter Tryz.func85, Tryz.ntmps85
  go_wp2_with (at_make; refine wpList_make_full _ rfl (.tmp 7) (.tmp 7) 119 rfl w.heap.size 168 i0 _ 4 Tryz.underlying119 hi hz0 hz1 .i64 .i64 _ _ ks.length rfl rfl rfl rfl (by rw [hz2]; omega) (by unfold maxLen; omega) (Nat.le_refl _) ?_)
  intro w1 hown1 hgrow1
  have hb1 : Below w.heap.size w w1 := (Below.refl _ _).grown hgrow1 (Nat.le_refl _) (fun k hk => by cases hk)
  obtain ⟨Z, HO1, hZl⟩ : ∃ Z : List Value, Hid (w1.ownsRow w.heap.size 168 4 (.slice (some ⟨w.heap.size, 0, none⟩) ks.length ks.length) ks.length Z) ∧ Z.length = ks.length * 4 := ⟨_, hown1, by simp [size_madeCells]⟩
  clear hown1 hgrow1 hi hz0 hz1 hz2
  go_wp2_with fail
  go_loopw [11] (fun i wr => ∃ (k : Nat) (Z : List Value), k ≤ ks.length ∧ i = .int .i64 k ∧ Z.length = (ks.length - k) * 4 ∧
      wr.ownsRow w.heap.size 168 4 (.slice (some ⟨w.heap.size, 0, none⟩) ks.length ks.length) ks.length (flatG keptCells (ks.take k) ++ Z) ∧ Below w.heap.size w wr)
    (fun i _ => ks.length - (intOf i).toNat)
  case atStart => exact ⟨0, Z, Nat.zero_le _, rfl, by simpa using hZl, by simpa [flatG] using HO1.out, hb1⟩
  case round =>
    clear HO1 hb1
    obtain ⟨k, Z, hk, rfl, hZl, hown, hb⟩ := hrel
    by_cases hlt : k < ks.length
    · obtain ⟨b, off, rfl, hbB, hc⟩ := h4 (by omega)
      obtain ⟨x, hx⟩ : ∃ x, ks[k]? = some x := ⟨_, List.getElem?_eq_getElem hlt⟩
      obtain ⟨c0, c1, c2, c3, hs, -⟩ := (hc k x hx).below (by omega) hb
      have HX : Hid (flatG keptCells (ks.take (k + 1)) = flatG keptCells (ks.take k) ++ keptCells x) := by
        unfold Hid
        rw [List.take_succ_eq_append_getElem hlt, flatG_snoc, (List.getElem?_eq_some_iff.1 hx).2]
      have hsz := hb.size
      clear hx hc h4
      obtain ⟨xs, xc, xn, xt⟩ := x
      simp only at c0 c1 c2 c3 hs
      obtain ⟨z0, z1, z2, z3, Z', hZe⟩ := four_ofg Z (by omega)
      subst hZe
      have hkl : (flatG keptCells (ks.take k)).length = k * 4 := by rw [flatG_length keptCells_len, List.length_take]; omega
      have hwg : w.heap.size < wr.heap.size := (hown.lt _ rfl).2
      have y : ∀ j z, (z0 :: z1 :: z2 :: z3 :: Z')[j]? = some z → j < 4 → wr.cell? ⟨w.heap.size, k * 4 + j, none⟩ = some z := fun j z hz hj => by
        rw [hown.cellAt (k * 4 + j) (by omega), List.getElem?_append_right (by omega), hkl, show k * 4 + j - k * 4 = j by omega]
        exact hz
      have y0 := y 0 z0 rfl (by omega)
      have y1 := y 1 z1 rfl (by omega)
      have y2 := y 2 z2 rfl (by omega)
      have y3 := y 3 z3 rfl (by omega)
      rw [Nat.add_zero] at y0
      have yf : ∀ j, wr.frozen? ⟨w.heap.size, j, none⟩ = false := fun j => hown.frozenAt j
      have HO := ghid hown
      have HB := ghid hb
      have HKL := ghid hkl
      have hba : Below wr.heap.size wr (wr.alloc (.cells #[.int .i64 xs, .int .i64 xc, .int .i64 xn, .string xt] 168)) := (Below.refl _ _).alloc (Nat.le_refl _) _
      have HBA := ghid hba
      clear hown y hkl hb hba
      go_wp2_with fail
      go_region_with (go_at_call 90; refine (copyReply_any xc xn xt _ hs).mono ?_; rintro e w2 ⟨rfl, hb2⟩; obtain ⟨hc2, hf2⟩ := gcell hb2; have hz2 : wr.heap.size < w2.heap.size := (by have := hb2.size; simp at this; omega); have hz3 : w.heap.size < w2.heap.size := (by omega))
      all_goals
        have HB2 := ghid (HBA.out.trans ((⟨hb2.os, hb2.tape, hb2.output, hb2.size, fun k hk => hb2.block k (by simpa using hk)⟩ : Below (wr.heap.size + 1) (wr.alloc (.cells #[.int .i64 xs, .int .i64 xc, .int .i64 xn, .string xt] 168)) w2).mono (by omega)))
        clear hb2
        go_wp2
        go_roundw
        case rel =>
          refine ⟨k + 1, Z', by omega, by go_num, by simp at hZl; omega, ?_, ?_⟩
          · rw [HX.out]
            have := put4g_own (grow_below HO.out HB2.out (Nat.le_refl _)) HKL.out (.int .i64 xs) (.int .i64 xc) (.int .i64 xn) (.string xt)
            simpa [keptCells] using this
          · exact put4g_below (HB.out.trans (HB2.out.mono hsz)) (Nat.le_refl _) _ _ _ _
        case measure => simp [intOf]; omega
    · have hkl : k = ks.length := by omega
      subst hkl
      have hZ0 : Z = [] := List.eq_nil_of_length_eq_zero (by omega)
      subst hZ0
      have HO : Hid (wr.ownsRow w.heap.size 168 4 (.slice (some ⟨w.heap.size, 0, none⟩) ks.length ks.length) ks.length (flatG keptCells ks)) := by
        unfold Hid
        simpa using hown
      clear hown h4
      go_wp2
      go_ret
      exact ⟨rfl, ⟨HO.out, hlen, HM.out⟩, hb⟩

end Go.Proofs.YtijilhbdbeajjaaGreatDoor
