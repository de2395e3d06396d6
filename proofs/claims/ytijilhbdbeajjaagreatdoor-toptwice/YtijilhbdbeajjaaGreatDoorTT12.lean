/- slices.Insert of one pair into a row of the call's own that has no room: a new row (joined by program) -/
import Derived.ArgAppend
import Derived.Deep.RegionLaw
import Derived.WalkSpells
import Derived.Test.YtijilhbdbeajjaaGreatDoorTT09
import Derived.Test.YtijilhbdbeajjaaGreatDoorTT02
namespace Go.Proofs.YtijilhbdbeajjaaGreatDoor

open Go.RowKit

theorem padd_lit (b o j : Nat) : (⟨b, o, none⟩ : Addr).add j = ⟨b, o + j, none⟩ := by unfold Addr.add; split <;> simp_all

set_option maxRecDepth 100000 in
set_option maxHeartbeats 1600000 in
theorem pinsert_end (g n : Nat) (rs : List PairD) (r : PairD) (bx : Nat) (w : World) (base : Nat) (h : w.ownsRow base 89 3 (.slice (some ⟨g, 0, none⟩) n n) n (flatP rs)) (hn : n = rs.length) (h5 : n < 5) (hx : ∀ j u, (pairCells r)[j]? = some u → w.cell? ⟨bx, j, none⟩ = some u) :
    Calls Tryz.prog 249 #[.slice (some ⟨g, 0, none⟩) n n, .int .i64 n, .slice (some ⟨bx, 0, none⟩) 1 1] w fun e w' => ∃ v', e = .returned v' ∧ w'.ownsRow w.heap.size 89 3 v' (n + 1) (flatP rs ++ pairCells r) ∧ Below w.heap.size w w' := by
  obtain ⟨i0, hi, hz0, hz1, hz2⟩ := info_parts Tryz.infoPair
  have hold : Hid (∀ b, (some (⟨g, 0, none⟩ : Addr)) = some b → ∀ j u, (flatP rs)[j]? = some u → w.cell? (b.add j) = some u) := by
    intro b hb j u hj
    simp only [Option.some.injEq] at hb
    subst hb
    exact h.cells (g := g) rfl j u hj
  have hnew : Hid (∀ j u, (pairCells r)[j]? = some u → w.cell? ((⟨bx, 0, none⟩ : Addr).add j) = some u) := by
    intro j u hj
    rw [padd_lit, Nat.zero_add]
    exact hx j u hj
  have hlen : Hid ((flatP rs).length = n * 3) := by unfold Hid; rw [flatP_length, hn]
  have hone := phid (pairCells_one r)
  clear h hx hn
  go_enter Tryz.func249, Tryz.ntmps249
  go_wp2_with (at_builtin; refine wpList_append_grows _ rfl (.tmp 23) (.tmp 24) 45 rfl 89 i0 _ 3 40 Tryz.underlying45 hi hz0 hz1 hz2 rfl (by decide) (some ⟨g, 0, none⟩) n n (flatP rs) rfl (by intro h; cases h) hlen.out hold.out ⟨bx, 0, none⟩ 1 1 (pairCells r) rfl rfl hnew.out hone.out (by omega) (by unfold maxLen; omega) (by omega) ?_)
  intro v1 w1 hown hgrow
  have hb1 : Below w.heap.size w w1 := (Below.refl _ _).grown hgrow (Nat.le_refl _) (fun k hk => by cases hk)
  have HO := phid hown
  clear hown hgrow hi hz0 hz1 hz2
  go_wp2
  go_ret
  exact ⟨v1, rfl, HO.out, hb1⟩

set_option maxRecDepth 100000 in
set_option maxHeartbeats 1600000 in
theorem pinsert_mid (g n i : Nat) (rs : List PairD) (r : PairD) (bx : Nat) (w : World) (base : Nat) (h : w.ownsRow base 89 3 (.slice (some ⟨g, 0, none⟩) n n) n (flatP rs)) (hn : n = rs.length) (h5 : n < 5) (hin : i < n) (hx : ∀ j u, (pairCells r)[j]? = some u → w.cell? ⟨bx, j, none⟩ = some u) (hbx : bx < w.heap.size) :
    Calls Tryz.prog 249 #[.slice (some ⟨g, 0, none⟩) n n, .int .i64 i, .slice (some ⟨bx, 0, none⟩) 1 1] w fun e w' => ∃ v', e = .returned v' ∧ w'.ownsRow w.heap.size 89 3 v' (n + 1) (flatP (rs.take i) ++ (pairCells r ++ flatP (rs.drop i))) ∧ Below w.heap.size w w' := by
  obtain ⟨i0, hi, hz0, hz1, hz2⟩ := info_parts Tryz.infoPair
  have hg := (h.lt g rfl).2
  have hsplit : flatP rs = flatP (rs.take i) ++ flatP (rs.drop i) := by rw [← flatP_append, List.take_append_drop]
  have hl1 : (flatP (rs.take i)).length = i * 3 := by rw [flatP_length, List.length_take]; omega
  have hl2 : (flatP (rs.drop i)).length = (n - i) * 3 := by rw [flatP_length, List.length_drop]; omega
  have hcells : ∀ j u, (flatP rs)[j]? = some u → w.cell? ⟨g, j, none⟩ = some u := fun j u hj => by
    have := h.cells (g := g) rfl j u hj
    rwa [padd_lit, Nat.zero_add] at this
  have hold : Hid (∀ j u, (flatP (rs.take i))[j]? = some u → w.cell? ((⟨g, 0, none⟩ : Addr).add j) = some u) := by
    intro j u hj
    rw [padd_lit, Nat.zero_add]
    refine hcells j u ?_
    rw [hsplit, List.getElem?_append_left (List.getElem?_eq_some_iff.1 hj).1]
    exact hj
  have htail : Hid (∀ j u, (flatP (rs.drop i))[j]? = some u → w.cell? ⟨g, i * 3 + j, none⟩ = some u) := by
    intro j u hj
    refine hcells _ u ?_
    rw [hsplit, List.getElem?_append_right (by omega), hl1, show i * 3 + j - i * 3 = j by omega]
    exact hj
  have hone := phid (pairCells_one r)
  have hone2 : Hid (∀ v ∈ flatP (rs.drop i), v.oneCell' = true) := fun v hv => flatP_one rs v (by rw [hsplit]; exact List.mem_append_right _ hv)
  have HX := phid hx
  have HL1 := phid hl1
  have HL2 := phid hl2
  have hni : ¬ n = i := by omega
  have hni2 : ((i : Int) == (n : Int)) = false := by simpa using (show ¬ (i : Int) = n by omega)
  have hni3 : ¬ (i : Int) = n := by omega
  clear h hx hn hsplit hl1 hl2 hcells
  go_enter Tryz.func249, Tryz.ntmps249
  go_wp2_with (at_builtin; refine wpList_append_zeros rfl (.tmp 34) (.tmp 39) 45 3 rfl 89 i0 _ 3 40 Tryz.underlying45 Tryz.underlying3 hi hz0 hz1 hz2 rfl (by decide) ⟨g, 0, none⟩ i n (flatP (rs.take i)) rfl HL1.out hold.out (n + 1 - i) _ rfl (by omega) (by omega) (by omega) (by unfold maxLen; omega) (by omega) ?_)
  intro C Z hC1 hC2 hZ
  have en : i + (n + 1 - i) = n + 1 := by omega
  rw [en] at hC1 ⊢
  clear en
  obtain ⟨W1, hW1⟩ : ∃ W1, W1 = (w.alloc (.cells (flatP (rs.take i) ++ Z).toArray 89)).drew := ⟨_, rfl⟩
  rw [← hW1]
  have hg1 : W1.heap[w.heap.size]? = some (.cells (flatP (rs.take i) ++ Z).toArray 89 (0, 0)) := by rw [hW1]; exact heap_alloc_new w _
  have hb1 : Below w.heap.size w W1 := by rw [hW1]; exact ((Below.refl _ _).alloc (Nat.le_refl _) _).drew
  have HG1 := phid hg1
  have HB1 := phid hb1
  have HN1 : Hid (∀ j u, (pairCells r)[j]? = some u → W1.cell? ((⟨bx, 0, none⟩ : Addr).add j) = some u) := by
    intro j u hj
    rw [padd_lit, Nat.zero_add]
    exact (hb1.cell (p := ⟨bx, j, none⟩) hbx).trans (HX.out j u hj)
  have hCi : ¬ C = i := by omega
  have hCi1 : ¬ C = i + 1 := by omega
  have hCi2 : i ≤ C := by omega
  have hCi3 : i + 1 ≤ C := by omega
  clear hW1 hg1 hb1 hold
  have hzl : i * 3 + 3 ≤ (flatP (rs.take i) ++ Z).toArray.size := by
    have := HL1.out
    have h2 : 1 * 3 ≤ (C - i) * 3 := Nat.mul_le_mul_right _ (by omega)
    simp only [List.size_toArray, List.length_append]
    omega
  go_wp2_with (refine wpList_copy_wide rfl (.tmp 43) (.tmp 44) 45 45 rfl 89 i0 Tryz.underlying45 hi w.heap.size (i * 3) (n + 1 - i) (C - i) ⟨bx, 0, none⟩ 1 1 1 rfl rfl _ _ HG1.out (pairCells r) (by show Nat.min 1 (n + 1 - i) = 1; exact Nat.min_eq_left (by omega)) (by rw [hz1]; rfl) HN1.out hzl hone.out ?_)
  have hZ4 : 3 ≤ Z.length := by
    have h2 : 1 * 3 ≤ (C - i) * 3 := Nat.mul_le_mul_right _ (by omega)
    omega
  obtain ⟨W2, hW2⟩ : ∃ W2, W2 = W1.setRow w.heap.size ((flatP (rs.take i) ++ Z).take (i * 3) ++ pairCells r ++ (flatP (rs.take i) ++ Z).drop (i * 3 + (pairCells r).length)).toArray := ⟨_, rfl⟩
  have hg2 : W2.heap[w.heap.size]? = some (.cells (flatP (rs.take i) ++ (pairCells r ++ Z.drop 3)).toArray 89 (0, 0)) := by
    rw [hW2, setRow_heap _ _ _ _ _ _ HG1.out]
    have e1 : (flatP (rs.take i) ++ Z).take (i * 3) = flatP (rs.take i) := by rw [← HL1.out]; simp
    have e2 : (flatP (rs.take i) ++ Z).drop (i * 3 + (pairCells r).length) = Z.drop 3 := by
      have : (pairCells r).length = 3 := rfl
      rw [this, ← HL1.out, List.drop_append]
      simp
    rw [e1, e2, List.append_assoc]
  have hb2 : Below w.heap.size w W2 := by rw [hW2]; exact below_setRow HB1.out (Nat.le_refl _) _
  rw [← hW2]
  have HG2 : Hid (W2.drew.heap[w.heap.size]? = some (.cells (flatP (rs.take i) ++ (pairCells r ++ Z.drop 3)).toArray 89 (0, 0))) := hg2
  have HB2 := phid hb2
  have HT2 : Hid (∀ j u, (flatP (rs.drop i))[j]? = some u → W2.drew.cell? ((⟨g, i * 3, none⟩ : Addr).add j) = some u) := by
    intro j u hj
    rw [padd_lit]
    exact (hb2.cell (p := ⟨g, i * 3 + j, none⟩) hg).trans (htail.out j u hj)
  have hzl2 : (i + 1) * 3 + (flatP (rs.drop i)).length ≤ (flatP (rs.take i) ++ (pairCells r ++ Z.drop 3)).toArray.size := by
    have e1 := HL1.out
    have e2 := HL2.out
    have : (pairCells r).length = 3 := rfl
    simp only [List.size_toArray, List.length_append, List.length_drop, this, e1, e2, hZ]
    have h2 : (n - i + 1) * 3 ≤ (C - i) * 3 := Nat.mul_le_mul_right _ (by omega)
    omega
  clear hW2 hg2 hb2 HG1 HB1 HN1 hzl htail HX
  have hwr : IntKind.i64.wrap ((i : Int) + 1) = (i : Int) + 1 := by rw [IntKind.wrap_i64]; omega
  have hto : ((i : Int) + 1).toNat = i + 1 := by omega
  have hq1 : (0 : Int) ≤ (i : Int) + 1 := by omega
  have hq2 : (i : Int) ≤ (n : Int) := by omega
  have hq3 : (i : Int) + 1 ≤ (n : Int) + 1 := by omega
  go_wp2_with fail
  go_region_law (refine step_copy_wide rfl (.tmp 50) (.tmp 53) 45 45 rfl 89 i0 Tryz.underlying45 hi w.heap.size ((i + 1) * 3) (n - i) (C - (i + 1)) ⟨g, i * 3, none⟩ (n - i) (n - i) (n - i) (by simp [Act.eval, Act.put]) (by simp [Act.eval, Act.put]) _ _ HG2.out (flatP (rs.drop i)) (Nat.min_self _) (by rw [hz1]; exact HL2.out) HT2.out hzl2 hone2.out ?_)
  obtain ⟨W3, hW3⟩ : ∃ W3, W3 = W2.drew.setRow w.heap.size ((flatP (rs.take i) ++ (pairCells r ++ Z.drop 3)).take ((i + 1) * 3) ++ (flatP (rs.drop i) ++ (flatP (rs.take i) ++ (pairCells r ++ Z.drop 3)).drop ((i + 1) * 3 + (flatP (rs.drop i)).length))).toArray := ⟨_, rfl⟩
  rw [← hW3]
  have hfin : Hid (W3.ownsRow w.heap.size 89 3 (.slice (some ⟨w.heap.size, 0, none⟩) (n + 1) C) (n + 1) (flatP (rs.take i) ++ (pairCells r ++ flatP (rs.drop i)))) := by
    have l3 : (pairCells r).length = 3 := rfl
    have e1 := HL1.out
    have e2 := HL2.out
    have et : (flatP (rs.take i) ++ (pairCells r ++ Z.drop 3)).take ((i + 1) * 3) = flatP (rs.take i) ++ pairCells r := by
      rw [← List.append_assoc, List.take_append_of_le_length (by simp only [List.length_append, l3, e1]; omega)]
      exact List.take_of_length_le (by simp only [List.length_append, l3, e1]; omega)
    rw [et] at hW3
    refine ⟨by simp only [List.length_append, l3, e1, e2]; omega, Or.inr ⟨w.heap.size, C, _, rfl, Nat.le_refl _, by rw [hW3]; exact setRow_heap _ _ _ _ _ _ HG2.out, by omega, hC2, ?_, ?_⟩⟩
    · simp only [List.size_toArray, List.length_append, List.length_drop, l3, e1, e2, hZ]
      have h2 : (n - i + 1) * 3 ≤ (C - i) * 3 := Nat.mul_le_mul_right _ (by omega)
      omega
    · have : (n + 1) * 3 = (flatP (rs.take i) ++ (pairCells r ++ flatP (rs.drop i))).length := by simp only [List.length_append, l3, e1, e2]; omega
      rw [this]
      have ea : ∀ (A B C D : List Value), ((A ++ B) ++ (C ++ D)).take (A ++ (B ++ C)).length = A ++ (B ++ C) := fun A B C D => by
        have : (A ++ B) ++ (C ++ D) = (A ++ (B ++ C)) ++ D := by simp
        rw [this]
        exact List.take_left
      exact ea _ _ _ _
  have hbf : Hid (Below w.heap.size w W3) := by unfold Hid; rw [hW3]; exact below_setRow HB2.out.drew (Nat.le_refl _) _
  clear hW3
  go_wp2
  go_ret
  exact ⟨_, rfl, hfin.out, hbf.out⟩

end Go.Proofs.YtijilhbdbeajjaaGreatDoor
