/- The document's CommandOf: it answers something. -/
import Derived.Test.YtkmeiilnjkmkiahRefReads
import Derived.Test.YtkmeiilnjkmkiahRefCmd
namespace Go.Proofs.Ytkmeiilnjkmkiah
open Go.RowKit

def CmdSome (w : World) (e : Ending) (w' : World) : Prop :=
  ∃ (k c s q u ok : Int) (a b : ByteArray) (n r : Int), e = .returned (.tuple #[.agg #[.int .i64 k, .int .i64 c, .int .i64 s, .int .i64 q, .int .i64 u, .int .i64 ok, .string a, .string b, .int .i64 n], .int .i64 r]) ∧ Below w.heap.size w w'

theorem nine_cells {w : World} {b : Nat} {x0 x1 x2 x3 x4 x5 x6 x7 x8 : Value} {t : TypeId} (h : w.heap[b]? = some (.cells #[x0, x1, x2, x3, x4, x5, x6, x7, x8] t (0, 0))) :
    w.cell? ⟨b, 0, none⟩ = some x0 ∧ w.cell? ⟨b, 1, none⟩ = some x1 ∧ w.cell? ⟨b, 2, none⟩ = some x2 ∧ w.cell? ⟨b, 3, none⟩ = some x3 ∧ w.cell? ⟨b, 4, none⟩ = some x4 ∧ w.cell? ⟨b, 5, none⟩ = some x5 ∧ w.cell? ⟨b, 6, none⟩ = some x6 ∧ w.cell? ⟨b, 7, none⟩ = some x7 ∧ w.cell? ⟨b, 8, none⟩ = some x8 :=
  ⟨cell_of_row w b 0 _ _ _ h, cell_of_row w b 1 _ _ _ h, cell_of_row w b 2 _ _ _ h, cell_of_row w b 3 _ _ _ h, cell_of_row w b 4 _ _ _ h, cell_of_row w b 5 _ _ _ h, cell_of_row w b 6 _ _ _ h, cell_of_row w b 7 _ _ _ h, cell_of_row w b 8 _ _ _ h⟩

theorem five_of_row {w : World} {b : Nat} {x0 x1 x2 x3 x4 : Value} {t : TypeId} (h : w.heap[b]? = some (.cells #[x0, x1, x2, x3, x4] t (0, 0))) :
    w.cell? ⟨b, 0, none⟩ = some x0 ∧ w.cell? ⟨b, 1, none⟩ = some x1 ∧ w.cell? ⟨b, 2, none⟩ = some x2 ∧ w.cell? ⟨b, 3, none⟩ = some x3 ∧ w.cell? ⟨b, 4, none⟩ = some x4 :=
  ⟨cell_of_row w b 0 _ _ _ h, cell_of_row w b 1 _ _ _ h, cell_of_row w b 2 _ _ _ h, cell_of_row w b 3 _ _ _ h, cell_of_row w b 4 _ _ _ h⟩

theorem cset9 {B : Nat} {w0 W : World} (h : Below B w0 W) {g : Nat} (hg : B ≤ g) (a b c d e f i j k : Value) :
    Below B w0 (((((((((W.setCell ⟨g, 0, none⟩ a).setCell ⟨g, 1, none⟩ b).setCell ⟨g, 2, none⟩ c).setCell ⟨g, 3, none⟩ d).setCell ⟨g, 4, none⟩ e).setCell ⟨g, 5, none⟩ f).setCell ⟨g, 6, none⟩ i).setCell ⟨g, 7, none⟩ j).setCell ⟨g, 8, none⟩ k) :=
  ((((((((h.setCell hg a).setCell hg b).setCell hg c).setCell hg d).setCell hg e).setCell hg f).setCell hg i).setCell hg j).setCell hg k

theorem cstr_e {b : ByteArray} (h : b.size = 0) : b.toList.isEmpty = true := by
  rw [size_zero h, ByteArray.toList_eq]
  rfl

theorem cstr_ne {b : ByteArray} (h : b.size ≠ 0) : b.toList.isEmpty = false := by
  rw [ByteArray.toList_eq]
  cases hb : b.data.toList with
  | nil =>
    have : b.data.toList.length = b.size := by simp
    rw [hb] at this
    exact absurd this.symm h
  | cons x t => rfl

set_option maxHeartbeats 1600000 in
theorem commandOf_edge (s : ByteArray) (w : World) (hs : s.size ≤ 140737488351232) (h : 5000 < s.size ∨ s.size < 2) : Calls Try.prog 21 #[.string s] w (CmdSome w) := by
  have hb0 : Below w.heap.size w (w.alloc (.cells #[.int .i64 0, .int .i64 0, .int .i64 0, .int .i64 0, .int .i64 0, .int .i64 0, .string ⟨#[]⟩, .string ⟨#[]⟩, .int .i64 0] 42)) := (Below.refl _ _).alloc (Nat.le_refl _) _
  have HR : Hid ((w.alloc (.cells #[.int .i64 0, .int .i64 0, .int .i64 0, .int .i64 0, .int .i64 0, .int .i64 0, .string ⟨#[]⟩, .string ⟨#[]⟩, .int .i64 0] 42)).heap[w.heap.size]? = some (.cells #[.int .i64 0, .int .i64 0, .int .i64 0, .int .i64 0, .int .i64 0, .int .i64 0, .string ⟨#[]⟩, .string ⟨#[]⟩, .int .i64 0] 42 (0, 0))) := heap_alloc_new w _
  have HB := chid hb0
  obtain ⟨z0, z1, z2, z3, z4, z5, z6, z7, z8⟩ := nine_cells HR.out
  have q := fun j => frozen_of_row _ w.heap.size j _ _ HR.out
  clear hb0
  rcases h with h | h
  · go_enter Try.func21, Try.ntmps21
    go_wp2
    refine bodyPost_ret (v := .tuple #[.agg #[.int .i64 0, .int .i64 0, .int .i64 0, .int .i64 0, .int .i64 0, .int .i64 0, .string ⟨#[]⟩, .string ⟨#[]⟩, .int .i64 0], .int .i64 1]) (by simp [results, Try.results21, go_sem, z0, z1, z2, z3, z4, z5, z6, z7, z8]) rfl ?_
    exact ⟨_, _, _, _, _, _, _, _, _, _, rfl, HB.out⟩
  · go_enter Try.func21, Try.ntmps21
    go_wp2
    refine bodyPost_ret (v := .tuple #[.agg #[.int .i64 0, .int .i64 0, .int .i64 0, .int .i64 0, .int .i64 0, .int .i64 0, .string ⟨#[]⟩, .string ⟨#[]⟩, .int .i64 0], .int .i64 5]) (by simp [results, Try.results21, go_sem, z0, z1, z2, z3, z4, z5, z6, z7, z8]) rfl ?_
    exact ⟨_, _, _, _, _, _, _, _, _, _, rfl, HB.out⟩

/-- A number put into five. -/
theorem five_put {w : World} {b : Nat} {t : TypeId} {x0 x1 x2 x3 x4 : Int} (h : w.heap[b]? = some (.cells #[.int .i64 x0, .int .i64 x1, .int .i64 x2, .int .i64 x3, .int .i64 x4] t (0, 0))) (hx : ∀ x ∈ [x0, x1, x2, x3, x4], 0 ≤ x ∧ x ≤ 1099511627776) (j : Nat) (hj : j < 5) (n : Int) (hn : 0 ≤ n ∧ n ≤ 1099511627776) :
    (∃ x, w.cell? ⟨b, j, none⟩ = some (.int .i64 x)) ∧ ∃ y0 y1 y2 y3 y4, (∀ y ∈ [y0, y1, y2, y3, y4], 0 ≤ y ∧ y ≤ 1099511627776) ∧ (w.setCell ⟨b, j, none⟩ (.int .i64 n)).heap[b]? = some (.cells #[.int .i64 y0, .int .i64 y1, .int .i64 y2, .int .i64 y3, .int .i64 y4] t (0, 0)) := by
  have g := heap_setCell_same w b j _ t (.int .i64 n) h
  simp only [List.mem_cons, List.not_mem_nil, or_false, forall_eq_or_imp, forall_eq] at hx
  obtain ⟨a0, a1, a2, a3, a4⟩ := hx
  match j, hj, g with
  | 0, _, g => exact ⟨⟨_, cell_of_row w b 0 _ _ _ h⟩, n, x1, x2, x3, x4, by simp; omega, by simpa using g⟩
  | 1, _, g => exact ⟨⟨_, cell_of_row w b 1 _ _ _ h⟩, x0, n, x2, x3, x4, by simp; omega, by simpa using g⟩
  | 2, _, g => exact ⟨⟨_, cell_of_row w b 2 _ _ _ h⟩, x0, x1, n, x3, x4, by simp; omega, by simpa using g⟩
  | 3, _, g => exact ⟨⟨_, cell_of_row w b 3 _ _ _ h⟩, x0, x1, x2, n, x4, by simp; omega, by simpa using g⟩
  | 4, _, g => exact ⟨⟨_, cell_of_row w b 4 _ _ _ h⟩, x0, x1, x2, x3, n, by simp; omega, by simpa using g⟩

/-- Five numbers put into a command. -/
theorem cmd_put5 {w : World} {b : Nat} {t : TypeId} {k c : Int} (h : w.heap[b]? = some (.cells #[.int .i64 k, .int .i64 c, .int .i64 0, .int .i64 0, .int .i64 0, .int .i64 0, .string ⟨#[]⟩, .string ⟨#[]⟩, .int .i64 0] t (0, 0))) (x0 x1 x2 x3 x4 : Int) :
    (((((w.setCell ⟨b, 2, none⟩ (.int .i64 x0)).setCell ⟨b, 3, none⟩ (.int .i64 x1)).setCell ⟨b, 4, none⟩ (.int .i64 x2)).setCell ⟨b, 5, none⟩ (.int .i64 x3)).setCell ⟨b, 8, none⟩ (.int .i64 x4)).heap[b]? = some (.cells #[.int .i64 k, .int .i64 c, .int .i64 x0, .int .i64 x1, .int .i64 x2, .int .i64 x3, .string ⟨#[]⟩, .string ⟨#[]⟩, .int .i64 x4] t (0, 0)) := by
  have g0 := heap_setCell_same w b 2 _ t (.int .i64 x0) h
  have g1 := heap_setCell_same _ b 3 _ t (.int .i64 x1) g0
  have g2 := heap_setCell_same _ b 4 _ t (.int .i64 x2) g1
  have g3 := heap_setCell_same _ b 5 _ t (.int .i64 x3) g2
  have g4 := heap_setCell_same _ b 8 _ t (.int .i64 x4) g3
  simpa using g4

theorem cmd_put5_other {w : World} {b r : Nat} (hne : r ≠ b) (x0 x1 x2 x3 x4 : Value) :
    (((((w.setCell ⟨b, 2, none⟩ x0).setCell ⟨b, 3, none⟩ x1).setCell ⟨b, 4, none⟩ x2).setCell ⟨b, 5, none⟩ x3).setCell ⟨b, 8, none⟩ x4).heap[r]? = w.heap[r]? := by
  rw [heap_setCell_other _ _ _ _ (by simpa using hne), heap_setCell_other _ _ _ _ (by simpa using hne), heap_setCell_other _ _ _ _ (by simpa using hne), heap_setCell_other _ _ _ _ (by simpa using hne), heap_setCell_other _ _ _ _ (by simpa using hne)]

set_option maxRecDepth 100000 in
set_option maxHeartbeats 3200000 in
theorem commandOf_mid (s : ByteArray) (w : World) (h1 : 2 ≤ s.size) (h2 : s.size ≤ 5000) : Calls Try.prog 21 #[.string s] w (CmdSome w) := by
  have i0 : (0 : Int) < (s.size : Int) := by omega
  have i1 : (1 : Int) < (s.size : Int) := by omega
  have n0 : 0 < s.size := by omega
  have n1 : 1 < s.size := by omega
  have hx5 : (s.extract 2 s.size).size ≤ 5000 := by rw [ByteArray.size_extract]; omega
  have hw0 : wrap64 ((s[0].toNat : Nat) : Int) = ((s[0].toNat : Nat) : Int) := by have := s[0].toNat_lt; simp [wrap64]; omega
  have hw1 : wrap64 ((s[1].toNat : Nat) : Int) = ((s[1].toNat : Nat) : Int) := by have := s[1].toNat_lt; simp [wrap64]; omega
  have HW0 := chid hw0
  have HW1 := chid hw1
  clear hw0 hw1
  go_enter Try.func21, Try.ntmps21
  go_wp2_with fail
  go_region
  rw [HW0.out, HW1.out]
  clear HW0 HW1
  obtain ⟨k, hk⟩ : ∃ k : Int, k = ((s[0].toNat : Nat) : Int) := ⟨_, rfl⟩
  obtain ⟨c, hc⟩ : ∃ c : Int, c = ((s[1].toNat : Nat) : Int) := ⟨_, rfl⟩
  rw [← hk, ← hc]
  clear hk hc
  obtain ⟨wa, hwa⟩ : ∃ wa, wa = ((w.alloc (.cells #[.int .i64 0, .int .i64 0, .int .i64 0, .int .i64 0, .int .i64 0, .int .i64 0, .string ⟨#[]⟩, .string ⟨#[]⟩, .int .i64 0] 42)).alloc (.cells #[.int .i64 k, .int .i64 c, .int .i64 0, .int .i64 0, .int .i64 0, .int .i64 0, .string ⟨#[]⟩, .string ⟨#[]⟩, .int .i64 0] 42)).drew := ⟨_, rfl⟩
  rw [← hwa]
  have za : wa.heap.size = w.heap.size + 2 := by rw [hwa]; simp
  have HB : Hid (Below w.heap.size w wa) := by rw [hwa]; exact (((Below.refl _ _).alloc (Nat.le_refl _) _).alloc (by simp) _).drew
  have HR : Hid (wa.heap[w.heap.size]? = some (.cells #[.int .i64 0, .int .i64 0, .int .i64 0, .int .i64 0, .int .i64 0, .int .i64 0, .string ⟨#[]⟩, .string ⟨#[]⟩, .int .i64 0] 42 (0, 0))) := by
    rw [hwa]
    show (World.alloc _ _).heap[_]? = _
    rw [Below.heap_alloc _ _ _ (by simp)]
    exact heap_alloc_new w _
  have HC : Hid (wa.heap[w.heap.size + 1]? = some (.cells #[.int .i64 k, .int .i64 c, .int .i64 0, .int .i64 0, .int .i64 0, .int .i64 0, .string ⟨#[]⟩, .string ⟨#[]⟩, .int .i64 0] 42 (0, 0))) := by
    rw [hwa]
    have := heap_alloc_new (w.alloc (.cells #[.int .i64 0, .int .i64 0, .int .i64 0, .int .i64 0, .int .i64 0, .int .i64 0, .string ⟨#[]⟩, .string ⟨#[]⟩, .int .i64 0] 42)) (.cells #[.int .i64 k, .int .i64 c, .int .i64 0, .int .i64 0, .int .i64 0, .int .i64 0, .string ⟨#[]⟩, .string ⟨#[]⟩, .int .i64 0] 42)
    rw [show (w.alloc (.cells #[.int .i64 0, .int .i64 0, .int .i64 0, .int .i64 0, .int .i64 0, .int .i64 0, .string ⟨#[]⟩, .string ⟨#[]⟩, .int .i64 0] 42)).heap.size = w.heap.size + 1 by simp] at this
    exact this
  have hrb : w.heap.size ≤ w.heap.size := Nat.le_refl _
  clear hwa
  have g0 : wa.cell? ⟨w.heap.size + 1, 0, none⟩ = some (.int .i64 k) := (nine_cells HC.out).1
  by_cases hk2 : k = 2
  · subst hk2
    have HA : Hid ((wa.alloc (.cells #[.int .i64 0, .int .i64 0, .int .i64 0, .int .i64 0, .int .i64 0] 50)).heap[w.heap.size + 2]? = some (.cells #[.int .i64 0, .int .i64 0, .int .i64 0, .int .i64 0, .int .i64 0] 50 (0, 0))) := by unfold Hid; rw [← za]; exact heap_alloc_new wa _
    have hba : Below wa.heap.size wa (wa.alloc (.cells #[.int .i64 0, .int .i64 0, .int .i64 0, .int .i64 0, .int .i64 0] 50)) := (Below.refl _ _).alloc (Nat.le_refl _) _
    have HRA : Hid ((wa.alloc (.cells #[.int .i64 0, .int .i64 0, .int .i64 0, .int .i64 0, .int .i64 0] 50)).heap[w.heap.size]? = _) := (hba.block _ (by omega)).trans HR.out
    have HCA : Hid ((wa.alloc (.cells #[.int .i64 0, .int .i64 0, .int .i64 0, .int .i64 0, .int .i64 0] 50)).heap[w.heap.size + 1]? = _) := (hba.block _ (by omega)).trans HC.out
    have HBA := chid (HB.out.trans (hba.mono (by omega)))
    clear hba HR HC HB
    go_wp2_with fail
    go_loopw [5, 7] (fun tv iv wr => ∃ (j : Nat) (t' : ByteArray) (x0 x1 x2 x3 x4 : Int), j ≤ 5 ∧ tv = .string t' ∧ iv = .int .i64 j ∧ t'.size ≤ 5000 ∧ (∀ x ∈ [x0, x1, x2, x3, x4], 0 ≤ x ∧ x ≤ 1099511627776) ∧ wr.heap[w.heap.size + 2]? = some (.cells #[.int .i64 x0, .int .i64 x1, .int .i64 x2, .int .i64 x3, .int .i64 x4] 50 (0, 0)) ∧
        wr.heap[w.heap.size + 1]? = some (.cells #[.int .i64 2, .int .i64 c, .int .i64 0, .int .i64 0, .int .i64 0, .int .i64 0, .string ⟨#[]⟩, .string ⟨#[]⟩, .int .i64 0] 42 (0, 0)) ∧ wr.heap[w.heap.size]? = some (.cells #[.int .i64 0, .int .i64 0, .int .i64 0, .int .i64 0, .int .i64 0, .int .i64 0, .string ⟨#[]⟩, .string ⟨#[]⟩, .int .i64 0] 42 (0, 0)) ∧ Below w.heap.size w wr) (fun _ i _ => 5 - (intOf i).toNat)
    case atStart => exact ⟨0, _, 0, 0, 0, 0, 0, by omega, rfl, rfl, hx5, by simp, HA.out, HCA.out, HRA.out, HBA.out⟩
    case round =>
      clear HA HRA HCA HBA g0
      obtain ⟨j, t, x0, x1, x2, x3, x4, hj, rfl, rfl, ht, hxs, ha, hcc, hrr, hbw⟩ := hrel
      have HXS := chid hxs
      have HA := chid ha
      have HC := chid hcc
      have HR := chid hrr
      have HB := chid hbw
      have hla : w.heap.size + 2 < wr.heap.size := (Array.getElem?_eq_some_iff.1 ha).1
      clear hxs ha hcc hrr hbw
      by_cases hj5 : j < 5
      · have hj0 : (0 : Int) ≤ (j : Int) := by omega
        have hj1 : (j : Int) < 5 := by omega
        have CN := chid (numberOf_some t wr (by omega))
        go_wp2_with fail
        refine CN.out.mono ?_
        rintro e w2 ⟨n, t2, ce, rfl, hn0, hn1, ht2, hb2⟩
        have HA2 : Hid (w2.heap[w.heap.size + 2]? = _) := (hb2.block _ hla).trans HA.out
        have HC2 : Hid (w2.heap[w.heap.size + 1]? = _) := (hb2.block _ (by omega)).trans HC.out
        have HR2 : Hid (w2.heap[w.heap.size]? = _) := (hb2.block _ (by omega)).trans HR.out
        have HB2 := chid (HB.out.trans (hb2.mono HB.out.size))
        clear hb2 CN
        by_cases hc0 : ce = 0
        · subst hc0
          obtain ⟨⟨xo, hxo⟩, y0, y1, y2, y3, y4, hys, hya⟩ := five_put HA2.out HXS.out j hj5 n ⟨hn0, hn1⟩
          have fr := fun i => frozen_of_row w2 (w.heap.size + 2) i _ _ HA2.out
          have HYA := chid hya
          have HYS := chid hys
          have HC3 : Hid ((w2.setCell ⟨w.heap.size + 2, j, none⟩ (.int .i64 n)).heap[w.heap.size + 1]? = _) := (heap_setCell_other _ _ _ _ (by simp)).trans HC2.out
          have HR3 : Hid ((w2.setCell ⟨w.heap.size + 2, j, none⟩ (.int .i64 n)).heap[w.heap.size]? = _) := (heap_setCell_other _ _ _ _ (by simp)).trans HR2.out
          have HB3 := chid (HB2.out.setCell (p := ⟨w.heap.size + 2, j, none⟩) (by simp) (.int .i64 n))
          clear hya hys
          go_wp2
          go_roundw
          case rel => exact ⟨j + 1, t2, y0, y1, y2, y3, y4, by omega, rfl, by go_num, by omega, HYS.out, HYA.out, HC3.out, HR3.out, HB3.out⟩
          case measure => simp [intOf]; omega
        · have hcb : (ce != 0) = true := by simpa using hc0
          obtain ⟨z0, z1, z2, z3, z4, z5, z6, z7, z8⟩ := nine_cells HR2.out
          have q := fun j => frozen_of_row w2 w.heap.size j _ _ HR2.out
          clear hc0
          go_wp2
          refine bodyPost_ret (v := .tuple #[.agg #[.int .i64 0, .int .i64 0, .int .i64 0, .int .i64 0, .int .i64 0, .int .i64 0, .string ⟨#[]⟩, .string ⟨#[]⟩, .int .i64 0], .int .i64 ce]) (by simp [results, Try.results21, go_sem, z0, z1, z2, z3, z4, z5, z6, z7, z8]) rfl ?_
          exact ⟨_, _, _, _, _, _, _, _, _, _, rfl, cset9 HB2.out hrb _ _ _ _ _ _ _ _ _⟩
      · obtain ⟨a0, a1, a2, a3, a4⟩ := five_of_row HA.out
        obtain ⟨y0, y1, y2, y3, y4, y5, y6, y7, y8⟩ := nine_cells HC.out
        have fr := fun i => frozen_of_row wr (w.heap.size + 1) i _ _ HC.out
        have HCP := chid (cmd_put5 HC.out x0 x1 x2 x3 x4)
        have HRP : Hid ((((((wr.setCell ⟨w.heap.size + 1, 2, none⟩ (.int .i64 x0)).setCell ⟨w.heap.size + 1, 3, none⟩ (.int .i64 x1)).setCell ⟨w.heap.size + 1, 4, none⟩ (.int .i64 x2)).setCell ⟨w.heap.size + 1, 5, none⟩ (.int .i64 x3)).setCell ⟨w.heap.size + 1, 8, none⟩ (.int .i64 x4)).heap[w.heap.size]? = _) := (cmd_put5_other (by omega) _ _ _ _ _).trans HR.out
        have HBP := chid (((((HB.out.setCell (p := ⟨w.heap.size + 1, 2, none⟩) (by simp) (.int .i64 x0)).setCell (p := ⟨w.heap.size + 1, 3, none⟩) (by simp) (.int .i64 x1)).setCell (p := ⟨w.heap.size + 1, 4, none⟩) (by simp) (.int .i64 x2)).setCell (p := ⟨w.heap.size + 1, 5, none⟩) (by simp) (.int .i64 x3)).setCell (p := ⟨w.heap.size + 1, 8, none⟩) (by simp) (.int .i64 x4))
        obtain ⟨W, hW⟩ : ∃ W, W = ((((wr.setCell ⟨w.heap.size + 1, 2, none⟩ (.int .i64 x0)).setCell ⟨w.heap.size + 1, 3, none⟩ (.int .i64 x1)).setCell ⟨w.heap.size + 1, 4, none⟩ (.int .i64 x2)).setCell ⟨w.heap.size + 1, 5, none⟩ (.int .i64 x3)).setCell ⟨w.heap.size + 1, 8, none⟩ (.int .i64 x4) := ⟨_, rfl⟩
        have hzW : W.heap.size = wr.heap.size := by rw [hW]; simp [World.setCell]
        have CT := chid (textOf_some t W (by omega))
        rw [← hW] at HCP HRP HBP
        rw [hW] at CT
        have HW := chid hW
        clear hW
        go_wp2_with fail
        refine CT.out.mono ?_
        rw [← HW.out]
        rintro e w3 ⟨a, t2, e1, rfl, ha1, ht2, hb3⟩
        have HC3 : Hid (w3.heap[w.heap.size + 1]? = _) := (hb3.block _ (by omega)).trans HCP.out
        have HR3 : Hid (w3.heap[w.heap.size]? = _) := (hb3.block _ (by omega)).trans HRP.out
        have HB3 := chid (HBP.out.trans (hb3.mono HBP.out.size))
        have hz3 := hb3.size
        clear hb3 CT y0 y1 y2 y3 y4 y5 y6 y7 y8 a0 a1 a2 a3 a4 fr
        by_cases hc0 : e1 = 0
        · subst hc0
          have CU := chid (textOf_some t2 w3 (by omega))
          go_wp2_with fail
          refine CU.out.mono ?_
          rintro e w4 ⟨b, t3, e2, rfl, hb1, ht3, hb4⟩
          have HC4 : Hid (w4.heap[w.heap.size + 1]? = _) := (hb4.block _ (by omega)).trans HC3.out
          have HR4 : Hid (w4.heap[w.heap.size]? = _) := (hb4.block _ (by omega)).trans HR3.out
          have HB4 := chid (HB3.out.trans (hb4.mono HB3.out.size))
          clear hb4 CU
          by_cases hd0 : e2 = 0
          · subst hd0
            obtain ⟨v0, v1, v2, v3, v4, v5, v6, v7, v8⟩ := nine_cells HC4.out
            have fr := fun i => frozen_of_row w4 (w.heap.size + 1) i _ _ HC4.out
            have hC5 := heap_setCell_same _ (w.heap.size + 1) 7 _ 42 (.string b) (heap_setCell_same w4 (w.heap.size + 1) 6 _ 42 (.string a) HC4.out)
            have HCX : Hid (((w4.setCell ⟨w.heap.size + 1, 6, none⟩ (.string a)).setCell ⟨w.heap.size + 1, 7, none⟩ (.string b)).heap[w.heap.size + 1]? = some (.cells #[.int .i64 2, .int .i64 c, .int .i64 x0, .int .i64 x1, .int .i64 x2, .int .i64 x3, .string a, .string b, .int .i64 x4] 42 (0, 0))) := by unfold Hid; simpa using hC5
            have HRX : Hid (((w4.setCell ⟨w.heap.size + 1, 6, none⟩ (.string a)).setCell ⟨w.heap.size + 1, 7, none⟩ (.string b)).heap[w.heap.size]? = _) := ((heap_setCell_other _ _ _ _ (by simp)).trans (heap_setCell_other _ _ _ _ (by simp))).trans HR4.out
            have HBX := chid ((HB4.out.setCell (p := ⟨w.heap.size + 1, 6, none⟩) (by simp) (.string a)).setCell (p := ⟨w.heap.size + 1, 7, none⟩) (by simp) (.string b))
            have HQ : Hid (FitsC x1) := by
              have := HXS.out x1 (by simp)
              exact ⟨by omega, by omega⟩
            have HR9 := HR4
            clear hC5 HA HC HR HB HCP HRP HBP HC3 HR3 HB3 HC4 HR4 HB4
            by_cases hz : t3.size = 0
            · have hem := cstr_e hz
              have CF := chid (cmdFault_any 2 c x0 x1 x2 x3 a b x4 ((w4.setCell ⟨w.heap.size + 1, 6, none⟩ (.string a)).setCell ⟨w.heap.size + 1, 7, none⟩ (.string b)) HQ.out (by show a.size ≤ _; omega) (by show b.size ≤ _; omega))
              obtain ⟨ce, hce⟩ : ∃ ce, ce = cmdE 2 c x0 x1 x2 x3 a b x4 := ⟨_, rfl⟩
              rw [← hce] at CF
              clear hce
              go_wp2_with fail
              refine CF.out.mono ?_
              rintro e w5 ⟨rfl, hb5⟩
              have HR5 : Hid (w5.heap[w.heap.size]? = _) := (hb5.block _ (Array.getElem?_eq_some_iff.1 HRX.out).1).trans HRX.out
              have HC5 : Hid (w5.heap[w.heap.size + 1]? = _) := (hb5.block _ (Array.getElem?_eq_some_iff.1 HCX.out).1).trans HCX.out
              have HB5 := chid (HBX.out.trans (hb5.mono HBX.out.size))
              obtain ⟨y0, y1, y2, y3, y4, y5, y6, y7, y8⟩ := nine_cells HC5.out
              obtain ⟨z0, z1, z2, z3, z4, z5, z6, z7, z8⟩ := nine_cells HR5.out
              have q := fun j => frozen_of_row w5 w.heap.size j _ _ HR5.out
              clear hb5 CF
              by_cases hc0 : ce = 0
              · subst hc0
                go_wp2
                refine bodyPost_ret (v := .tuple #[.agg #[.int .i64 2, .int .i64 c, .int .i64 x0, .int .i64 x1, .int .i64 x2, .int .i64 x3, .string a, .string b, .int .i64 x4], .int .i64 0]) (by simp [results, Try.results21, go_sem, z0, z1, z2, z3, z4, z5, z6, z7, z8]) rfl ?_
                exact ⟨_, _, _, _, _, _, _, _, _, _, rfl, cset9 HB5.out hrb _ _ _ _ _ _ _ _ _⟩
              · have hcb : (ce != 0) = true := by simpa using hc0
                clear hc0
                go_wp2
                refine bodyPost_ret (v := .tuple #[.agg #[.int .i64 0, .int .i64 0, .int .i64 0, .int .i64 0, .int .i64 0, .int .i64 0, .string ⟨#[]⟩, .string ⟨#[]⟩, .int .i64 0], .int .i64 ce]) (by simp [results, Try.results21, go_sem, z0, z1, z2, z3, z4, z5, z6, z7, z8]) rfl ?_
                exact ⟨_, _, _, _, _, _, _, _, _, _, rfl, cset9 HB5.out hrb _ _ _ _ _ _ _ _ _⟩
            · have hne := cstr_ne hz
              obtain ⟨z0, z1, z2, z3, z4, z5, z6, z7, z8⟩ := nine_cells HR9.out
              have q := fun j => frozen_of_row w4 w.heap.size j _ _ HR9.out
              clear hz
              go_wp2
              refine bodyPost_ret (v := .tuple #[.agg #[.int .i64 0, .int .i64 0, .int .i64 0, .int .i64 0, .int .i64 0, .int .i64 0, .string ⟨#[]⟩, .string ⟨#[]⟩, .int .i64 0], .int .i64 4]) (by simp [results, Try.results21, go_sem, z0, z1, z2, z3, z4, z5, z6, z7, z8]) rfl ?_
              exact ⟨_, _, _, _, _, _, _, _, _, _, rfl, cset9 HBX.out hrb _ _ _ _ _ _ _ _ _⟩
          · have hcb : (e2 != 0) = true := by simpa using hd0
            obtain ⟨z0, z1, z2, z3, z4, z5, z6, z7, z8⟩ := nine_cells HR4.out
            have q := fun j => frozen_of_row w4 w.heap.size j _ _ HR4.out
            clear hd0
            go_wp2
            refine bodyPost_ret (v := .tuple #[.agg #[.int .i64 0, .int .i64 0, .int .i64 0, .int .i64 0, .int .i64 0, .int .i64 0, .string ⟨#[]⟩, .string ⟨#[]⟩, .int .i64 0], .int .i64 e2]) (by simp [results, Try.results21, go_sem, z0, z1, z2, z3, z4, z5, z6, z7, z8]) rfl ?_
            exact ⟨_, _, _, _, _, _, _, _, _, _, rfl, cset9 HB4.out hrb _ _ _ _ _ _ _ _ _⟩
        · have hcb : (e1 != 0) = true := by simpa using hc0
          obtain ⟨z0, z1, z2, z3, z4, z5, z6, z7, z8⟩ := nine_cells HR3.out
          have q := fun j => frozen_of_row w3 w.heap.size j _ _ HR3.out
          clear hc0
          go_wp2
          refine bodyPost_ret (v := .tuple #[.agg #[.int .i64 0, .int .i64 0, .int .i64 0, .int .i64 0, .int .i64 0, .int .i64 0, .string ⟨#[]⟩, .string ⟨#[]⟩, .int .i64 0], .int .i64 e1]) (by simp [results, Try.results21, go_sem, z0, z1, z2, z3, z4, z5, z6, z7, z8]) rfl ?_
          exact ⟨_, _, _, _, _, _, _, _, _, _, rfl, cset9 HB3.out hrb _ _ _ _ _ _ _ _ _⟩
  · have hkb : (k == 2) = false := by simpa using hk2
    clear hk2
    by_cases hz : (s.extract 2 s.size).size = 0
    · have hem := cstr_e hz
      have CF := chid (cmdFault_any k c 0 0 0 0 ⟨#[]⟩ ⟨#[]⟩ 0 wa ⟨by decide, by decide⟩ (Nat.zero_le _) (Nat.zero_le _))
      obtain ⟨ce, hce⟩ : ∃ ce, ce = cmdE k c 0 0 0 0 ⟨#[]⟩ ⟨#[]⟩ 0 := ⟨_, rfl⟩
      rw [← hce] at CF
      obtain ⟨y0, y1, y2, y3, y4, y5, y6, y7, y8⟩ := nine_cells HC.out
      clear hce
      go_wp2_with fail
      refine CF.out.mono ?_
      rintro e w5 ⟨rfl, hb5⟩
      have HR5 : Hid (w5.heap[w.heap.size]? = _) := (hb5.block _ (Array.getElem?_eq_some_iff.1 HR.out).1).trans HR.out
      have HC5 : Hid (w5.heap[w.heap.size + 1]? = _) := (hb5.block _ (Array.getElem?_eq_some_iff.1 HC.out).1).trans HC.out
      have HB5 := chid (HB.out.trans (hb5.mono HB.out.size))
      obtain ⟨y0, y1, y2, y3, y4, y5, y6, y7, y8⟩ := nine_cells HC5.out
      obtain ⟨z0, z1, z2, z3, z4, z5, z6, z7, z8⟩ := nine_cells HR5.out
      have q := fun j => frozen_of_row w5 w.heap.size j _ _ HR5.out
      clear hb5 CF
      by_cases hc0 : ce = 0
      · subst hc0
        go_wp2
        refine bodyPost_ret (v := .tuple #[.agg #[.int .i64 k, .int .i64 c, .int .i64 0, .int .i64 0, .int .i64 0, .int .i64 0, .string ⟨#[]⟩, .string ⟨#[]⟩, .int .i64 0], .int .i64 0]) (by simp [results, Try.results21, go_sem, z0, z1, z2, z3, z4, z5, z6, z7, z8]) rfl ?_
        exact ⟨_, _, _, _, _, _, _, _, _, _, rfl, cset9 HB5.out hrb _ _ _ _ _ _ _ _ _⟩
      · have hcb : (ce != 0) = true := by simpa using hc0
        clear hc0
        go_wp2
        refine bodyPost_ret (v := .tuple #[.agg #[.int .i64 0, .int .i64 0, .int .i64 0, .int .i64 0, .int .i64 0, .int .i64 0, .string ⟨#[]⟩, .string ⟨#[]⟩, .int .i64 0], .int .i64 ce]) (by simp [results, Try.results21, go_sem, z0, z1, z2, z3, z4, z5, z6, z7, z8]) rfl ?_
        exact ⟨_, _, _, _, _, _, _, _, _, _, rfl, cset9 HB5.out hrb _ _ _ _ _ _ _ _ _⟩
    · have hne := cstr_ne hz
      obtain ⟨z0, z1, z2, z3, z4, z5, z6, z7, z8⟩ := nine_cells HR.out
      have q := fun j => frozen_of_row wa w.heap.size j _ _ HR.out
      clear hz
      go_wp2
      refine bodyPost_ret (v := .tuple #[.agg #[.int .i64 0, .int .i64 0, .int .i64 0, .int .i64 0, .int .i64 0, .int .i64 0, .string ⟨#[]⟩, .string ⟨#[]⟩, .int .i64 0], .int .i64 4]) (by simp [results, Try.results21, go_sem, z0, z1, z2, z3, z4, z5, z6, z7, z8]) rfl ?_
      exact ⟨_, _, _, _, _, _, _, _, _, _, rfl, cset9 HB.out hrb _ _ _ _ _ _ _ _ _⟩


theorem commandOf_some (s : ByteArray) (w : World) (hs : s.size ≤ 140737488351232) : Calls Try.prog 21 #[.string s] w (CmdSome w) := by
  by_cases h : 5000 < s.size ∨ s.size < 2
  · exact commandOf_edge s w hs h
  · exact commandOf_mid s w (by omega) (by omega)
end Go.Proofs.Ytkmeiilnjkmkiah
