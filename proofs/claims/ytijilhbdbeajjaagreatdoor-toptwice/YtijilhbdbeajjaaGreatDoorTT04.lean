/- slices.Insert of one lock into a row of the call's own that has no room: a new row (joined by program) -/
import Derived.ArgAppend
import Derived.Deep.RegionLaw
import Derived.WalkSpells
import Derived.Test.YtijilhbdbeajjaaGreatDoorTT01
import Derived.Test.YtijilhbdbeajjaaGreatDoorTT02
import Derived.Test.YtijilhbdbeajjaaGreatDoorTT03
namespace Go.Proofs.YtijilhbdbeajjaaGreatDoor

open Go.RowKit

theorem lockCells_one (r : LockD × Value) (h : r.2.oneCell' = true) : ∀ v ∈ lockCells r, v.oneCell' = true := by
  intro v hv
  simp only [lockCells, List.mem_cons, List.not_mem_nil, or_false] at hv
  rcases hv with rfl | rfl | rfl | rfl
  · rfl
  · rfl
  · rfl
  · exact h

theorem slice_one {w : World} {base : Nat} {e : TypeId} {size : Nat} {v : Value} {n : Nat} {xs : List Value} (h : w.ownsRow base e size v n xs) : v.oneCell' = true := by
  rcases h.2 with ⟨rfl, _⟩ | ⟨_, _, _, rfl, _⟩ <;> rfl

theorem flat_one {w : World} {base : Nat} {rs : List (LockD × Value)} (h : Lines w base rs) : ∀ v ∈ flat rs, v.oneCell' = true := by
  intro v hv
  obtain ⟨r, hr, hv⟩ := List.mem_flatMap.1 hv
  exact lockCells_one r (slice_one (h.each r hr).1) v hv

theorem flat_append (a b : List (LockD × Value)) : flat (a ++ b) = flat a ++ flat b := by simp [flat]

theorem add_lit (b o j : Nat) : (⟨b, o, none⟩ : Addr).add j = ⟨b, o + j, none⟩ := by unfold Addr.add; split <;> simp_all

set_option maxRecDepth 100000 in
set_option maxHeartbeats 1600000 in
theorem insert_end (g n : Nat) (rs : List (LockD × Value)) (r : LockD × Value) (bx : Nat) (w : World) (base : Nat) (h : OwnL w base (.slice (some ⟨g, 0, none⟩) n n) rs) (hn : n = rs.length) (h5 : n < 5) (hx : ∀ j u, (lockCells r)[j]? = some u → w.cell? ⟨bx, j, none⟩ = some u) (hr : r.2.oneCell' = true) :
    Calls Tryz.prog 244 #[.slice (some ⟨g, 0, none⟩) n n, .int .i64 n, .slice (some ⟨bx, 0, none⟩) 1 1] w fun e w' => ∃ v', e = .returned v' ∧ w'.ownsRow w.heap.size 82 4 v' (n + 1) (flat rs ++ lockCells r) ∧ Below w.heap.size w w' := by
  obtain ⟨i0, hi, hz0, hz1, hz2⟩ := info_parts Tryz.infoLock
  have hold : Hid (∀ b, (some (⟨g, 0, none⟩ : Addr)) = some b → ∀ j u, (flat rs)[j]? = some u → w.cell? (b.add j) = some u) := by
    intro b hb j u hj
    simp only [Option.some.injEq] at hb
    subst hb
    exact h.row.cells (g := g) rfl j u hj
  have hnew : Hid (∀ j u, (lockCells r)[j]? = some u → w.cell? ((⟨bx, 0, none⟩ : Addr).add j) = some u) := by
    intro j u hj
    rw [add_lit, Nat.zero_add]
    exact hx j u hj
  have hlen : Hid ((flat rs).length = n * 4) := by unfold Hid; rw [flat_length, hn]
  have hone := Hid.mk' (lockCells_one r hr)
  clear h hx hr hn
  go_enter Tryz.func244, Tryz.ntmps244
  go_wp2_with (at_builtin; refine wpList_append_grows _ rfl (.tmp 23) (.tmp 24) 44 rfl 82 i0 _ 4 56 Tryz.underlying44 hi hz0 hz1 hz2 rfl (by decide) (some ⟨g, 0, none⟩) n n (flat rs) rfl (by intro h; cases h) hlen.out hold.out ⟨bx, 0, none⟩ 1 1 (lockCells r) rfl rfl hnew.out hone.out (by omega) (by unfold maxLen; omega) (by omega) ?_)
  intro v1 w1 hown hgrow
  have hb1 : Below w.heap.size w w1 := (Below.refl _ _).grown hgrow (Nat.le_refl _) (fun k hk => by cases hk)
  have HO := Hid.mk' hown
  clear hown hgrow hi hz0 hz1 hz2
  go_wp2
  go_ret
  exact ⟨v1, rfl, HO.out, hb1⟩

set_option maxRecDepth 100000 in
set_option maxHeartbeats 1600000 in
theorem insert_mid (g n i : Nat) (rs : List (LockD × Value)) (r : LockD × Value) (bx : Nat) (w : World) (base : Nat) (h : OwnL w base (.slice (some ⟨g, 0, none⟩) n n) rs) (hn : n = rs.length) (h5 : n < 5) (hin : i < n) (hx : ∀ j u, (lockCells r)[j]? = some u → w.cell? ⟨bx, j, none⟩ = some u) (hbx : bx < w.heap.size) (hr : r.2.oneCell' = true) :
    Calls Tryz.prog 244 #[.slice (some ⟨g, 0, none⟩) n n, .int .i64 i, .slice (some ⟨bx, 0, none⟩) 1 1] w fun e w' => ∃ v', e = .returned v' ∧ w'.ownsRow w.heap.size 82 4 v' (n + 1) (flat (rs.take i) ++ (lockCells r ++ flat (rs.drop i))) ∧ Below w.heap.size w w' := by
  obtain ⟨i0, hi, hz0, hz1, hz2⟩ := info_parts Tryz.infoLock
  have hg := (h.row.lt g rfl).2
  have hsplit : flat rs = flat (rs.take i) ++ flat (rs.drop i) := by rw [← flat_append, List.take_append_drop]
  have hl1 : (flat (rs.take i)).length = i * 4 := by rw [flat_length, List.length_take]; omega
  have hl2 : (flat (rs.drop i)).length = (n - i) * 4 := by rw [flat_length, List.length_drop]; omega
  have hcells : ∀ j u, (flat rs)[j]? = some u → w.cell? ⟨g, j, none⟩ = some u := fun j u hj => by
    have := h.row.cells (g := g) rfl j u hj
    rwa [add_lit, Nat.zero_add] at this
  have hold : Hid (∀ j u, (flat (rs.take i))[j]? = some u → w.cell? ((⟨g, 0, none⟩ : Addr).add j) = some u) := by
    intro j u hj
    rw [add_lit, Nat.zero_add]
    refine hcells j u ?_
    rw [hsplit, List.getElem?_append_left (List.getElem?_eq_some_iff.1 hj).1]
    exact hj
  have htail : Hid (∀ j u, (flat (rs.drop i))[j]? = some u → w.cell? ⟨g, i * 4 + j, none⟩ = some u) := by
    intro j u hj
    refine hcells _ u ?_
    rw [hsplit, List.getElem?_append_right (by omega), hl1, show i * 4 + j - i * 4 = j by omega]
    exact hj
  have hone := Hid.mk' (lockCells_one r hr)
  have hone2 : Hid (∀ v ∈ flat (rs.drop i), v.oneCell' = true) := fun v hv => flat_one h.lines v (by rw [hsplit]; exact List.mem_append_right _ hv)
  have HX := Hid.mk' hx
  have HL1 := Hid.mk' hl1
  have HL2 := Hid.mk' hl2
  have hni : ¬ n = i := by omega
  have hni2 : ((i : Int) == (n : Int)) = false := by simpa using (show ¬ (i : Int) = n by omega)
  have hni3 : ¬ (i : Int) = n := by omega
  clear h hx hr hn hsplit hl1 hl2 hcells
  go_enter Tryz.func244, Tryz.ntmps244
  go_wp2_with (at_builtin; refine wpList_append_zeros rfl (.tmp 34) (.tmp 39) 44 3 rfl 82 i0 _ 4 56 Tryz.underlying44 Tryz.underlying3 hi hz0 hz1 hz2 rfl (by decide) ⟨g, 0, none⟩ i n (flat (rs.take i)) rfl HL1.out hold.out (n + 1 - i) _ rfl (by omega) (by omega) (by omega) (by unfold maxLen; omega) (by omega) ?_)
  intro C Z hC1 hC2 hZ
  have en : i + (n + 1 - i) = n + 1 := by omega
  rw [en] at hC1 ⊢
  clear en
  obtain ⟨W1, hW1⟩ : ∃ W1, W1 = (w.alloc (.cells (flat (rs.take i) ++ Z).toArray 82)).drew := ⟨_, rfl⟩
  rw [← hW1]
  have hg1 : W1.heap[w.heap.size]? = some (.cells (flat (rs.take i) ++ Z).toArray 82 (0, 0)) := by rw [hW1]; exact heap_alloc_new w _
  have hb1 : Below w.heap.size w W1 := by rw [hW1]; exact ((Below.refl _ _).alloc (Nat.le_refl _) _).drew
  have HG1 := Hid.mk' hg1
  have HB1 := Hid.mk' hb1
  have HN1 : Hid (∀ j u, (lockCells r)[j]? = some u → W1.cell? ((⟨bx, 0, none⟩ : Addr).add j) = some u) := by
    intro j u hj
    rw [add_lit, Nat.zero_add]
    exact (hb1.cell (p := ⟨bx, j, none⟩) hbx).trans (HX.out j u hj)
  have hCi : ¬ C = i := by omega
  have hCi1 : ¬ C = i + 1 := by omega
  have hCi2 : i ≤ C := by omega
  have hCi3 : i + 1 ≤ C := by omega
  clear hW1 hg1 hb1 hold
  have hzl : i * 4 + 4 ≤ (flat (rs.take i) ++ Z).toArray.size := by
    have := HL1.out
    have h2 : 1 * 4 ≤ (C - i) * 4 := Nat.mul_le_mul_right _ (by omega)
    simp only [List.size_toArray, List.length_append]
    omega
  go_wp2_with (refine wpList_copy_wide rfl (.tmp 43) (.tmp 44) 44 44 rfl 82 i0 Tryz.underlying44 hi w.heap.size (i * 4) (n + 1 - i) (C - i) ⟨bx, 0, none⟩ 1 1 1 rfl rfl _ _ HG1.out (lockCells r) (by show Nat.min 1 (n + 1 - i) = 1; exact Nat.min_eq_left (by omega)) (by rw [hz1]; rfl) HN1.out hzl hone.out ?_)
  have hZ4 : 4 ≤ Z.length := by
    have h2 : 1 * 4 ≤ (C - i) * 4 := Nat.mul_le_mul_right _ (by omega)
    omega
  obtain ⟨W2, hW2⟩ : ∃ W2, W2 = W1.setRow w.heap.size ((flat (rs.take i) ++ Z).take (i * 4) ++ lockCells r ++ (flat (rs.take i) ++ Z).drop (i * 4 + (lockCells r).length)).toArray := ⟨_, rfl⟩
  have hg2 : W2.heap[w.heap.size]? = some (.cells (flat (rs.take i) ++ (lockCells r ++ Z.drop 4)).toArray 82 (0, 0)) := by
    rw [hW2, setRow_heap _ _ _ _ _ _ HG1.out]
    have e1 : (flat (rs.take i) ++ Z).take (i * 4) = flat (rs.take i) := by rw [← HL1.out]; simp
    have e2 : (flat (rs.take i) ++ Z).drop (i * 4 + (lockCells r).length) = Z.drop 4 := by
      have : (lockCells r).length = 4 := rfl
      rw [this, ← HL1.out, List.drop_append]
      simp
    rw [e1, e2, List.append_assoc]
  have hb2 : Below w.heap.size w W2 := by rw [hW2]; exact below_setRow HB1.out (Nat.le_refl _) _
  rw [← hW2]
  have HG2 : Hid (W2.drew.heap[w.heap.size]? = some (.cells (flat (rs.take i) ++ (lockCells r ++ Z.drop 4)).toArray 82 (0, 0))) := hg2
  have HB2 := Hid.mk' hb2
  have HT2 : Hid (∀ j u, (flat (rs.drop i))[j]? = some u → W2.drew.cell? ((⟨g, i * 4, none⟩ : Addr).add j) = some u) := by
    intro j u hj
    rw [add_lit]
    exact (hb2.cell (p := ⟨g, i * 4 + j, none⟩) hg).trans (htail.out j u hj)
  have hzl2 : (i + 1) * 4 + (flat (rs.drop i)).length ≤ (flat (rs.take i) ++ (lockCells r ++ Z.drop 4)).toArray.size := by
    have e1 := HL1.out
    have e2 := HL2.out
    have : (lockCells r).length = 4 := rfl
    simp only [List.size_toArray, List.length_append, List.length_drop, this, e1, e2, hZ]
    have h2 : (n - i + 1) * 4 ≤ (C - i) * 4 := Nat.mul_le_mul_right _ (by omega)
    omega
  clear hW2 hg2 hb2 HG1 HB1 HN1 hzl htail HX
  have hwr : IntKind.i64.wrap ((i : Int) + 1) = (i : Int) + 1 := by rw [IntKind.wrap_i64]; omega
  have hto : ((i : Int) + 1).toNat = i + 1 := by omega
  have hq1 : (0 : Int) ≤ (i : Int) + 1 := by omega
  have hq2 : (i : Int) ≤ (n : Int) := by omega
  have hq3 : (i : Int) + 1 ≤ (n : Int) + 1 := by omega
  go_wp2_with fail
  go_region_law (refine step_copy_wide rfl (.tmp 50) (.tmp 53) 44 44 rfl 82 i0 Tryz.underlying44 hi w.heap.size ((i + 1) * 4) (n - i) (C - (i + 1)) ⟨g, i * 4, none⟩ (n - i) (n - i) (n - i) (by simp [Act.eval, Act.put]) (by simp [Act.eval, Act.put]) _ _ HG2.out (flat (rs.drop i)) (Nat.min_self _) (by rw [hz1]; exact HL2.out) HT2.out hzl2 hone2.out ?_)
  obtain ⟨W3, hW3⟩ : ∃ W3, W3 = W2.drew.setRow w.heap.size ((flat (rs.take i) ++ (lockCells r ++ Z.drop 4)).take ((i + 1) * 4) ++ (flat (rs.drop i) ++ (flat (rs.take i) ++ (lockCells r ++ Z.drop 4)).drop ((i + 1) * 4 + (flat (rs.drop i)).length))).toArray := ⟨_, rfl⟩
  rw [← hW3]
  have hfin : Hid (W3.ownsRow w.heap.size 82 4 (.slice (some ⟨w.heap.size, 0, none⟩) (n + 1) C) (n + 1) (flat (rs.take i) ++ (lockCells r ++ flat (rs.drop i)))) := by
    have l4 : (lockCells r).length = 4 := rfl
    have e1 := HL1.out
    have e2 := HL2.out
    have et : (flat (rs.take i) ++ (lockCells r ++ Z.drop 4)).take ((i + 1) * 4) = flat (rs.take i) ++ lockCells r := by
      rw [← List.append_assoc, List.take_append_of_le_length (by simp only [List.length_append, l4, e1]; omega)]
      exact List.take_of_length_le (by simp only [List.length_append, l4, e1]; omega)
    rw [et] at hW3
    refine ⟨by simp only [List.length_append, l4, e1, e2]; omega, Or.inr ⟨w.heap.size, C, _, rfl, Nat.le_refl _, by rw [hW3]; exact setRow_heap _ _ _ _ _ _ HG2.out, by omega, hC2, ?_, ?_⟩⟩
    · simp only [List.size_toArray, List.length_append, List.length_drop, l4, e1, e2, hZ]
      have h2 : (n - i + 1) * 4 ≤ (C - i) * 4 := Nat.mul_le_mul_right _ (by omega)
      omega
    · have : (n + 1) * 4 = (flat (rs.take i) ++ (lockCells r ++ flat (rs.drop i))).length := by simp only [List.length_append, l4, e1, e2]; omega
      rw [this]
      have ea : ∀ (A B C D : List Value), ((A ++ B) ++ (C ++ D)).take (A ++ (B ++ C)).length = A ++ (B ++ C) := fun A B C D => by
        have : (A ++ B) ++ (C ++ D) = (A ++ (B ++ C)) ++ D := by simp
        rw [this]
        exact List.take_left
      exact ea _ _ _ _
  have hbf : Hid (Below w.heap.size w W3) := by unfold Hid; rw [hW3]; exact below_setRow HB2.out.drew (Nat.le_refl _) _
  clear hW3
  go_wp2
  go_ret
  exact ⟨_, rfl, hfin.out, hbf.out⟩

theorem OwnL.insert {w w' : World} {base : Nat} {v v' : Value} {rs : List (LockD × Value)} {i : Nat} {x : LockD} (h : OwnL w base v rs) (hb : Below w.heap.size w w') (hbase : base ≤ w.heap.size) (hr : w'.ownsRow w.heap.size 82 4 v' (rs.length + 1) (flat (rs.take i ++ (x, .slice none 0 0) :: rs.drop i))) (hi : i ≤ rs.length) (hl : x.line = []) (hn : x.name.size ≤ 140737488351232) (h5 : rs.length < 5) :
    OwnL w' base v' (rs.take i ++ (x, .slice none 0 0) :: rs.drop i) := by
  have hlen : (rs.take i ++ (x, .slice none 0 0) :: rs.drop i).length = rs.length + 1 := by simp; omega
  have hlb : lineBlocks (rs.take i ++ (x, .slice none 0 0) :: rs.drop i) = lineBlocks rs := by
    rw [lineBlocks_mid]
    have e1 : lineBlocks rs = lineBlocks (rs.take i ++ rs.drop i) := by rw [List.take_append_drop]
    have e2 : lineBlocks (rs.take i ++ rs.drop i) = lineBlocks (rs.take i) ++ lineBlocks (rs.drop i) := by unfold lineBlocks; rw [List.flatMap_append]
    have e3 : ((x, Value.slice none 0 0) : LockD × Value).2.ownBlock.toList = [] := rfl
    rw [e3, List.nil_append, e1, e2]
  have hlines := h.lines.below hb (Nat.le_refl _)
  refine ⟨by rw [hlen]; exact ownsRow_mono hr hbase, ⟨fun q hq => ?_, by rw [hlb]; exact h.lines.nodup⟩, fun b hbk e => ?_, by rw [hlen]; omega⟩
  · rcases List.mem_append.1 hq with hq | hq
    · exact hlines.each q (List.mem_of_mem_take hq)
    · rcases List.mem_cons.1 hq with rfl | hq
      · exact ⟨by rw [hl]; exact World.ownsRow_nil _ _ _ _, by rw [hl]; simp, hn⟩
      · exact hlines.each q (List.mem_of_mem_drop hq)
  · rw [hlb] at hbk
    have h1 := (h.lines.lt hbk).2
    have h2 := (hr.lt b e).1
    omega

end Go.Proofs.YtijilhbdbeajjaaGreatDoor
