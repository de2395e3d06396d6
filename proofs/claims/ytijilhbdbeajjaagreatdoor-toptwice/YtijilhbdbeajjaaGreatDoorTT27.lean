/- slices.Insert of one session into a row of the call's own that has no room: a new row. (Written by gen_insert.py.); One session more, in its place (joined by program) -/
import Derived.ArgAppend
import Derived.Deep.RegionLaw
import Derived.WalkSpells
import Derived.Test.YtijilhbdbeajjaaGreatDoorTT16
import Derived.Test.YtijilhbdbeajjaaGreatDoorTT02
import Derived.Test.YtijilhbdbeajjaaGreatDoorTT01
namespace Go.Proofs.YtijilhbdbeajjaaGreatDoor

open Go.RowKit

set_option maxRecDepth 100000 in
set_option maxHeartbeats 1600000 in
theorem sinsert_end (g n : Nat) (rs : List (SessD × Value)) (r : SessD × Value) (bx : Nat) (w : World) (base : Nat) (h : w.ownsRow base 121 5 (.slice (some ⟨g, 0, none⟩) n n) n (flatG sessCells rs)) (hn : n = rs.length) (h5 : n < 5) (hx : ∀ j u, (sessCells r)[j]? = some u → w.cell? ⟨bx, j, none⟩ = some u) (h1 : ∀ v ∈ sessCells r, v.oneCell' = true) :
    Calls Tryz.prog 180 #[.slice (some ⟨g, 0, none⟩) n n, .int .i64 n, .slice (some ⟨bx, 0, none⟩) 1 1] w fun e w' => ∃ v', e = .returned v' ∧ w'.ownsRow w.heap.size 121 5 v' (n + 1) (flatG sessCells rs ++ sessCells r) ∧ Below w.heap.size w w' := by
  obtain ⟨i0, hi, hz0, hz1, hz2⟩ := info_parts Tryz.infoSess
  have hold : Hid (∀ b, (some (⟨g, 0, none⟩ : Addr)) = some b → ∀ j u, (flatG sessCells rs)[j]? = some u → w.cell? (b.add j) = some u) := by
    intro b hb j u hj
    simp only [Option.some.injEq] at hb
    subst hb
    exact h.cells (g := g) rfl j u hj
  have hnew : Hid (∀ j u, (sessCells r)[j]? = some u → w.cell? ((⟨bx, 0, none⟩ : Addr).add j) = some u) := by
    intro j u hj
    rw [gadd, Nat.zero_add]
    exact hx j u hj
  have hlen : Hid ((flatG sessCells rs).length = n * 5) := by unfold Hid; rw [flatG_length sessCells_len, hn]
  have hone := ghid h1
  clear h hx hn h1
  go_enter Tryz.func180, Tryz.ntmps180
  go_wp2_with (at_builtin; refine wpList_append_grows _ rfl (.tmp 23) (.tmp 24) 46 rfl 121 i0 _ 5 56 Tryz.underlying46 hi hz0 hz1 hz2 rfl (by decide) (some ⟨g, 0, none⟩) n n (flatG sessCells rs) rfl (by intro h; cases h) hlen.out hold.out ⟨bx, 0, none⟩ 1 1 (sessCells r) rfl rfl hnew.out hone.out (by omega) (by unfold maxLen; omega) (by omega) ?_)
  intro v1 w1 hown hgrow
  have hb1 : Below w.heap.size w w1 := (Below.refl _ _).grown hgrow (Nat.le_refl _) (fun k hk => by cases hk)
  have HO := ghid hown
  clear hown hgrow hi hz0 hz1 hz2
  go_wp2
  go_ret
  exact ⟨v1, rfl, HO.out, hb1⟩

set_option maxRecDepth 100000 in
set_option maxHeartbeats 1600000 in
theorem sinsert_mid (g n i : Nat) (rs : List (SessD × Value)) (r : SessD × Value) (bx : Nat) (w : World) (base : Nat) (h : w.ownsRow base 121 5 (.slice (some ⟨g, 0, none⟩) n n) n (flatG sessCells rs)) (hn : n = rs.length) (h5 : n < 5) (hin : i < n) (hx : ∀ j u, (sessCells r)[j]? = some u → w.cell? ⟨bx, j, none⟩ = some u) (hbx : bx < w.heap.size) (h1 : ∀ v ∈ sessCells r, v.oneCell' = true) (hA : ∀ v ∈ flatG sessCells rs, v.oneCell' = true) :
    Calls Tryz.prog 180 #[.slice (some ⟨g, 0, none⟩) n n, .int .i64 i, .slice (some ⟨bx, 0, none⟩) 1 1] w fun e w' => ∃ v', e = .returned v' ∧ w'.ownsRow w.heap.size 121 5 v' (n + 1) (flatG sessCells (rs.take i) ++ (sessCells r ++ flatG sessCells (rs.drop i))) ∧ Below w.heap.size w w' := by
  obtain ⟨i0, hi, hz0, hz1, hz2⟩ := info_parts Tryz.infoSess
  have hg := (h.lt g rfl).2
  have hsplit : flatG sessCells rs = flatG sessCells (rs.take i) ++ flatG sessCells (rs.drop i) := by rw [← flatG_append, List.take_append_drop]
  have hl1 : (flatG sessCells (rs.take i)).length = i * 5 := by rw [flatG_length sessCells_len, List.length_take]; omega
  have hl2 : (flatG sessCells (rs.drop i)).length = (n - i) * 5 := by rw [flatG_length sessCells_len, List.length_drop]; omega
  have hcells : ∀ j u, (flatG sessCells rs)[j]? = some u → w.cell? ⟨g, j, none⟩ = some u := fun j u hj => by
    have := h.cells (g := g) rfl j u hj
    rwa [gadd, Nat.zero_add] at this
  have hold : Hid (∀ j u, (flatG sessCells (rs.take i))[j]? = some u → w.cell? ((⟨g, 0, none⟩ : Addr).add j) = some u) := by
    intro j u hj
    rw [gadd, Nat.zero_add]
    refine hcells j u ?_
    rw [hsplit, List.getElem?_append_left (List.getElem?_eq_some_iff.1 hj).1]
    exact hj
  have htail : Hid (∀ j u, (flatG sessCells (rs.drop i))[j]? = some u → w.cell? ⟨g, i * 5 + j, none⟩ = some u) := by
    intro j u hj
    refine hcells _ u ?_
    rw [hsplit, List.getElem?_append_right (by omega), hl1, show i * 5 + j - i * 5 = j by omega]
    exact hj
  have hone := ghid h1
  have hone2 : Hid (∀ v ∈ flatG sessCells (rs.drop i), v.oneCell' = true) := fun v hv => hA v (by rw [hsplit]; exact List.mem_append_right _ hv)
  have HX := ghid hx
  have HL1 := ghid hl1
  have HL2 := ghid hl2
  have hni : ¬ n = i := by omega
  have hni2 : ((i : Int) == (n : Int)) = false := by simpa using (show ¬ (i : Int) = n by omega)
  have hni3 : ¬ (i : Int) = n := by omega
  clear h hx hn hsplit hl1 hl2 hcells h1 hA
  go_enter Tryz.func180, Tryz.ntmps180
  go_wp2_with (at_builtin; refine wpList_append_zeros rfl (.tmp 34) (.tmp 39) 46 3 rfl 121 i0 _ 5 56 Tryz.underlying46 Tryz.underlying3 hi hz0 hz1 hz2 rfl (by decide) ⟨g, 0, none⟩ i n (flatG sessCells (rs.take i)) rfl HL1.out hold.out (n + 1 - i) _ rfl (by omega) (by omega) (by omega) (by unfold maxLen; omega) (by omega) ?_)
  intro C Z hC1 hC2 hZ
  have en : i + (n + 1 - i) = n + 1 := by omega
  rw [en] at hC1 ⊢
  clear en
  obtain ⟨W1, hW1⟩ : ∃ W1, W1 = (w.alloc (.cells (flatG sessCells (rs.take i) ++ Z).toArray 121)).drew := ⟨_, rfl⟩
  rw [← hW1]
  have hg1 : W1.heap[w.heap.size]? = some (.cells (flatG sessCells (rs.take i) ++ Z).toArray 121 (0, 0)) := by rw [hW1]; exact heap_alloc_new w _
  have hb1 : Below w.heap.size w W1 := by rw [hW1]; exact ((Below.refl _ _).alloc (Nat.le_refl _) _).drew
  have HG1 := ghid hg1
  have HB1 := ghid hb1
  have HN1 : Hid (∀ j u, (sessCells r)[j]? = some u → W1.cell? ((⟨bx, 0, none⟩ : Addr).add j) = some u) := by
    intro j u hj
    rw [gadd, Nat.zero_add]
    exact (hb1.cell (p := ⟨bx, j, none⟩) hbx).trans (HX.out j u hj)
  have hCi : ¬ C = i := by omega
  have hCi1 : ¬ C = i + 1 := by omega
  have hCi2 : i ≤ C := by omega
  have hCi3 : i + 1 ≤ C := by omega
  clear hW1 hg1 hb1 hold
  have hzl : i * 5 + 5 ≤ (flatG sessCells (rs.take i) ++ Z).toArray.size := by
    have := HL1.out
    have h2 : 1 * 5 ≤ (C - i) * 5 := Nat.mul_le_mul_right _ (by omega)
    simp only [List.size_toArray, List.length_append]
    omega
  go_wp2_with (refine wpList_copy_wide rfl (.tmp 43) (.tmp 44) 46 46 rfl 121 i0 Tryz.underlying46 hi w.heap.size (i * 5) (n + 1 - i) (C - i) ⟨bx, 0, none⟩ 1 1 1 rfl rfl _ _ HG1.out (sessCells r) (by show Nat.min 1 (n + 1 - i) = 1; exact Nat.min_eq_left (by omega)) (by rw [hz1]; rfl) HN1.out hzl hone.out ?_)
  have hZ4 : 5 ≤ Z.length := by
    have h2 : 1 * 5 ≤ (C - i) * 5 := Nat.mul_le_mul_right _ (by omega)
    omega
  obtain ⟨W2, hW2⟩ : ∃ W2, W2 = W1.setRow w.heap.size ((flatG sessCells (rs.take i) ++ Z).take (i * 5) ++ sessCells r ++ (flatG sessCells (rs.take i) ++ Z).drop (i * 5 + (sessCells r).length)).toArray := ⟨_, rfl⟩
  have hg2 : W2.heap[w.heap.size]? = some (.cells (flatG sessCells (rs.take i) ++ (sessCells r ++ Z.drop 5)).toArray 121 (0, 0)) := by
    rw [hW2, setRow_heap _ _ _ _ _ _ HG1.out]
    have e1 : (flatG sessCells (rs.take i) ++ Z).take (i * 5) = flatG sessCells (rs.take i) := by rw [← HL1.out]; simp
    have e2 : (flatG sessCells (rs.take i) ++ Z).drop (i * 5 + (sessCells r).length) = Z.drop 5 := by
      have : (sessCells r).length = 5 := rfl
      rw [this, ← HL1.out, List.drop_append]
      simp
    rw [e1, e2, List.append_assoc]
  have hb2 : Below w.heap.size w W2 := by rw [hW2]; exact below_setRow HB1.out (Nat.le_refl _) _
  rw [← hW2]
  have HG2 : Hid (W2.drew.heap[w.heap.size]? = some (.cells (flatG sessCells (rs.take i) ++ (sessCells r ++ Z.drop 5)).toArray 121 (0, 0))) := hg2
  have HB2 := ghid hb2
  have HT2 : Hid (∀ j u, (flatG sessCells (rs.drop i))[j]? = some u → W2.drew.cell? ((⟨g, i * 5, none⟩ : Addr).add j) = some u) := by
    intro j u hj
    rw [gadd]
    exact (hb2.cell (p := ⟨g, i * 5 + j, none⟩) hg).trans (htail.out j u hj)
  have hzl2 : (i + 1) * 5 + (flatG sessCells (rs.drop i)).length ≤ (flatG sessCells (rs.take i) ++ (sessCells r ++ Z.drop 5)).toArray.size := by
    have e1 := HL1.out
    have e2 := HL2.out
    have : (sessCells r).length = 5 := rfl
    simp only [List.size_toArray, List.length_append, List.length_drop, this, e1, e2, hZ]
    have h2 : (n - i + 1) * 5 ≤ (C - i) * 5 := Nat.mul_le_mul_right _ (by omega)
    omega
  clear hW2 hg2 hb2 HG1 HB1 HN1 hzl htail HX
  have hwr : IntKind.i64.wrap ((i : Int) + 1) = (i : Int) + 1 := by rw [IntKind.wrap_i64]; omega
  have hto : ((i : Int) + 1).toNat = i + 1 := by omega
  have hq1 : (0 : Int) ≤ (i : Int) + 1 := by omega
  have hq2 : (i : Int) ≤ (n : Int) := by omega
  have hq3 : (i : Int) + 1 ≤ (n : Int) + 1 := by omega
  go_wp2_with fail
  go_region_law (refine step_copy_wide rfl (.tmp 50) (.tmp 53) 46 46 rfl 121 i0 Tryz.underlying46 hi w.heap.size ((i + 1) * 5) (n - i) (C - (i + 1)) ⟨g, i * 5, none⟩ (n - i) (n - i) (n - i) (by simp [Act.eval, Act.put]) (by simp [Act.eval, Act.put]) _ _ HG2.out (flatG sessCells (rs.drop i)) (Nat.min_self _) (by rw [hz1]; exact HL2.out) HT2.out hzl2 hone2.out ?_)
  obtain ⟨W3, hW3⟩ : ∃ W3, W3 = W2.drew.setRow w.heap.size ((flatG sessCells (rs.take i) ++ (sessCells r ++ Z.drop 5)).take ((i + 1) * 5) ++ (flatG sessCells (rs.drop i) ++ (flatG sessCells (rs.take i) ++ (sessCells r ++ Z.drop 5)).drop ((i + 1) * 5 + (flatG sessCells (rs.drop i)).length))).toArray := ⟨_, rfl⟩
  rw [← hW3]
  have hfin : Hid (W3.ownsRow w.heap.size 121 5 (.slice (some ⟨w.heap.size, 0, none⟩) (n + 1) C) (n + 1) (flatG sessCells (rs.take i) ++ (sessCells r ++ flatG sessCells (rs.drop i)))) := by
    have l3 : (sessCells r).length = 5 := rfl
    have e1 := HL1.out
    have e2 := HL2.out
    have et : (flatG sessCells (rs.take i) ++ (sessCells r ++ Z.drop 5)).take ((i + 1) * 5) = flatG sessCells (rs.take i) ++ sessCells r := by
      rw [← List.append_assoc, List.take_append_of_le_length (by simp only [List.length_append, l3, e1]; omega)]
      exact List.take_of_length_le (by simp only [List.length_append, l3, e1]; omega)
    rw [et] at hW3
    refine ⟨by simp only [List.length_append, l3, e1, e2]; omega, Or.inr ⟨w.heap.size, C, _, rfl, Nat.le_refl _, by rw [hW3]; exact setRow_heap _ _ _ _ _ _ HG2.out, by omega, hC2, ?_, ?_⟩⟩
    · simp only [List.size_toArray, List.length_append, List.length_drop, l3, e1, e2, hZ]
      have h2 : (n - i + 1) * 5 ≤ (C - i) * 5 := Nat.mul_le_mul_right _ (by omega)
      omega
    · have : (n + 1) * 5 = (flatG sessCells (rs.take i) ++ (sessCells r ++ flatG sessCells (rs.drop i))).length := by simp only [List.length_append, l3, e1, e2]; omega
      rw [this]
      have ea : ∀ (A B C D : List Value), ((A ++ B) ++ (C ++ D)).take (A ++ (B ++ C)).length = A ++ (B ++ C) := fun A B C D => by
        have : (A ++ B) ++ (C ++ D) = (A ++ (B ++ C)) ++ D := by simp
        rw [this]
        exact List.take_left
      exact ea _ _ _ _
  have hbf : Hid (Below w.heap.size w W3) := by unfold Hid; rw [hW3]; exact below_setRow HB2.out.drew (Nat.le_refl _) _
  clear hW3
  go_wp2
  go_ret
  exact ⟨_, rfl, hfin.out, hbf.out⟩

end Go.Proofs.YtijilhbdbeajjaaGreatDoor

namespace Go.Proofs.YtijilhbdbeajjaaGreatDoor

open Go.RowKit

theorem gslice_one {w : World} {base : Nat} {e : TypeId} {size : Nat} {v : Value} {n : Nat} {xs : List Value} (h : w.ownsRow base e size v n xs) : v.oneCell' = true := by
  rcases h.2 with ⟨rfl, _⟩ | ⟨_, _, _, rfl, _⟩ <;> rfl

theorem sflat_one {w : World} {base : Nat} {rs : List (SessD × Value)} (h : Reps w base rs) : ∀ v ∈ flatG sessCells rs, v.oneCell' = true := by
  intro v hv
  obtain ⟨r, hr, hv⟩ := List.mem_flatMap.1 hv
  exact sessCells_one r (gslice_one (h.each r hr).row) v hv

theorem sinsert_at (g n i : Nat) (rs : List (SessD × Value)) (x : SessD) (bx : Nat) (w : World) (base : Nat) (h : OwnS w base (.slice (some ⟨g, 0, none⟩) n n) rs) (h4 : n < 5) (hin : i ≤ n) (hk : x.replies = []) (hx : ∀ j u, (sessCells (x, .slice none 0 0))[j]? = some u → w.cell? ⟨bx, j, none⟩ = some u) (hbx : bx < w.heap.size) (hbase : base ≤ w.heap.size) :
    Calls Tryz.prog 180 #[.slice (some ⟨g, 0, none⟩) n n, .int .i64 i, .slice (some ⟨bx, 0, none⟩) 1 1] w fun e w' => ∃ v', e = .returned v' ∧ OwnS w' base v' (rs.take i ++ (x, .slice none 0 0) :: rs.drop i) ∧ Below w.heap.size w w' := by
  have hn := h.len_eq
  have hrow := h.row
  rw [← hn] at hrow
  have fin : ∀ (v' : Value) (w' : World), w'.ownsRow w.heap.size 121 5 v' (n + 1) (flatG sessCells (rs.take i) ++ (sessCells (x, .slice none 0 0) ++ flatG sessCells (rs.drop i))) → Below w.heap.size w w' → OwnS w' base v' (rs.take i ++ (x, .slice none 0 0) :: rs.drop i) := by
    intro v' w' hr hb
    have hl : (rs.take i ++ (x, Value.slice none 0 0) :: rs.drop i).length = n + 1 := by simp [List.length_take, List.length_drop]; omega
    refine ⟨by rw [hl, flatG_append, flatG_cons]; exact grow_mono hr hbase, ?_, by rw [hl]; omega⟩
    refine Reps.mid (by rw [List.take_append_drop]; exact h.reps.below hb (Nat.le_refl _)) ?_ (fun b hb => by cases hb)
    show OwnK w' base (.slice none 0 0) x.replies
    rw [hk]
    exact OwnK.nil _ _
  by_cases hi : i = n
  · subst hi
    refine (sinsert_end g i rs (x, .slice none 0 0) bx w base hrow hn h4 hx (sessCells_one _ rfl)).mono ?_
    rintro e w' ⟨v', rfl, hr, hb⟩
    refine ⟨v', rfl, fin v' w' ?_ hb, hb⟩
    rw [List.take_of_length_le (by omega), List.drop_of_length_le (by omega), flatG_nil, List.append_nil]
    exact hr
  · refine (sinsert_mid g n i rs (x, .slice none 0 0) bx w base hrow hn h4 (by omega) hx hbx (sessCells_one _ rfl) (sflat_one h.reps)).mono ?_
    rintro e w' ⟨v', rfl, hr, hb⟩
    exact ⟨v', rfl, fin v' w' hr hb, hb⟩

end Go.Proofs.YtijilhbdbeajjaaGreatDoor
