/- The reader's call: what a Call has behind its head, read; Commands held against one another (joined by program) -/
import Derived.BigRegion
import Derived.Laws.StructEq
import Derived.Test.YtkmeiilnjkmkiaiDoorLC10
import Derived.Test.YtkmeiilnjkmkiaiDoorLC08
import Derived.Test.YtkmeiilnjkmkiaiDoorLC01
namespace Go.Proofs.YtkmeiilnjkmkiaiDoor

open Go.RowKit

/-- Where the numbers of a Call lie. -/
def offN (j : Nat) : Nat := [2, 3, 4, 5, 8].getD j 0

/-- The reader, behind so many numbers. -/
def rdAt (s : ByteArray) : Nat → ByteArray × Int
  | 0 => (s, 0)
  | j + 1 => (stepN (rdAt s j)).2

/-- The cells of the command, behind so many numbers. -/
def csAt (k c : Int) (s : ByteArray) : Nat → Array Value
  | 0 => #[.int .i64 k, .int .i64 c, .int .i64 0, .int .i64 0, .int .i64 0, .int .i64 0, .string ⟨#[]⟩, .string ⟨#[]⟩, .int .i64 0]
  | j + 1 => (csAt k c s j).setIfInBounds (offN j) (.int .i64 (stepN (rdAt s j)).1)

theorem rdAt_size (s : ByteArray) (j : Nat) : (rdAt s j).1.size ≤ s.size := by
  induction j with
  | zero => exact Nat.le_refl _
  | succ j ih => exact Nat.le_trans (stepN_size _) ih

theorem csAt_next (k c : Int) (s : ByteArray) (j : Nat) (h : j < 5) : (csAt k c s j)[offN j]? = some (.int .i64 0) := by
  rcases (by omega : j = 0 ∨ j = 1 ∨ j = 2 ∨ j = 3 ∨ j = 4) with rfl | rfl | rfl | rfl | rfl <;> simp [csAt, offN]

theorem csAt_five (k c : Int) (s : ByteArray) : csAt k c s 5 = #[.int .i64 k, .int .i64 c, .int .i64 (stepN (rdAt s 0)).1, .int .i64 (stepN (rdAt s 1)).1, .int .i64 (stepN (rdAt s 2)).1, .int .i64 (stepN (rdAt s 3)).1, .string ⟨#[]⟩, .string ⟨#[]⟩, .int .i64 (stepN (rdAt s 4)).1] := by
  simp [csAt, offN]

set_option maxRecDepth 100000 in
set_option maxHeartbeats 6400000 in
theorem rdCall_any (rb cb : Nat) (k c : Int) (s : ByteArray) (w : World) (hs : s.size ≤ 140737488351232) (hr : IsRd rb s 0 w) (hne : cb ≠ rb) (hc : IsCm cb ⟨k, c, 0, 0, 0, 0, ⟨#[]⟩, ⟨#[]⟩, 0⟩ w) :
    Calls Tryd.prog 38 #[.pointer (some ⟨rb, 0, none⟩), .pointer (some ⟨cb, 0, none⟩)] w fun x w' => x = .returned (.tuple #[]) ∧ IsRd rb (decCall k c s).2.1 (decCall k c s).2.2 w' ∧ IsCm cb (decCall k c s).1 w' ∧ Two rb cb w w' := by
  have hlr : rb < w.heap.size := (Array.getElem?_eq_some_iff.1 hr).1
  have hlc : cb < w.heap.size := (Array.getElem?_eq_some_iff.1 hc).1
  have HR := chid hr
  have HC := chid hc
  clear hr hc
  go_enter Tryd.func38, Tryd.ntmps38
  go_wp2_with fail
  go_region
  have hb0 : Below w.heap.size w (w.alloc (.cells #[.pointer (some ⟨cb, 2, none⟩), .pointer (some ⟨cb, 3, none⟩), .pointer (some ⟨cb, 4, none⟩), .pointer (some ⟨cb, 5, none⟩), .pointer (some ⟨cb, 8, none⟩)] 87)).drew := ((Below.refl _ _).alloc (Nat.le_refl _) _).drew
  have HB0 := chid hb0
  clear hb0
  go_wp2
  go_loopw [25] (fun i wr => ∃ j : Nat, j ≤ 5 ∧ i = .int .i64 j ∧ IsRd rb (rdAt s j).1 (rdAt s j).2 wr ∧ wr.heap[cb]? = some (.cells (csAt k c s j) 45 (0, 0)) ∧ wr.heap[w.heap.size]? = some (.cells #[.pointer (some ⟨cb, 2, none⟩), .pointer (some ⟨cb, 3, none⟩), .pointer (some ⟨cb, 4, none⟩), .pointer (some ⟨cb, 5, none⟩), .pointer (some ⟨cb, 8, none⟩)] 87 (0, 0)) ∧ Two rb cb w wr) (fun i _ => 5 - (intOf i).toNat)
  case atStart =>
    refine ⟨0, by omega, rfl, (HB0.out.block _ hlr).trans HR.out, (HB0.out.block _ hlc).trans HC.out, ?_, Two.of_below HB0.out⟩
    exact heap_alloc_new w _
  case round =>
    obtain ⟨j, hj, rfl, hrd, hcm, hrow, htw⟩ := hrel
    have HRD := chid hrd
    have HCM := chid hcm
    have HRW := chid hrow
    have HTW := chid htw
    have hzr : w.heap.size < wr.heap.size := (Array.getElem?_eq_some_iff.1 hrow).1
    clear hrd hcm hrow htw
    by_cases hlt : j < 5
    · have hcx : wr.cell? ⟨w.heap.size, j, none⟩ = some (.pointer (some ⟨cb, offN j, none⟩)) := by
        rw [Lib.cell_of_heap HRW.out]
        rcases (by omega : j = 0 ∨ j = 1 ∨ j = 2 ∨ j = 3 ∨ j = 4) with rfl | rfl | rfl | rfl | rfl <;> rfl
      have CN := chid (rdNumber_any rb cb (offN j) (rdAt s j) (csAt k c s j) wr (Nat.le_trans (rdAt_size s j) hs) HRD.out hne HCM.out (csAt_next k c s j hlt))
      obtain ⟨o, ho⟩ : ∃ o, o = offN j := ⟨_, rfl⟩
      rw [← ho] at hcx CN
      have HO := chid ho
      clear ho
      go_wp2_with fail
      refine CN.out.mono ?_
      rintro e w2 ⟨rfl, hr2, hc2, ht2⟩
      have HR2 := chid hr2
      have HC2 := chid hc2
      have HW2 : Hid (w2.heap[w.heap.size]? = _) := (ht2.block _ hzr (by omega) (by omega)).trans HRW.out
      have HT2 := chid (HTW.out.trans ht2)
      clear hr2 hc2 ht2 hcx CN
      go_wp2
      go_roundw
      case rel =>
        refine ⟨j + 1, by omega, by go_num, HR2.out, ?_, HW2.out, HT2.out⟩
        have h := HC2.out
        rw [HO.out] at h
        exact h
      case measure => simp [intOf]; omega
    · obtain rfl : j = 5 := by omega
      have h6 : (csAt k c s 5)[6]? = some (.string ⟨#[]⟩) := by rw [csAt_five]; rfl
      have CT := chid (rdText_any rb cb 6 (rdAt s 5) (csAt k c s 5) wr (Nat.le_trans (rdAt_size s 5) hs) HRD.out hne HCM.out h6)
      clear h6 hlt hj
      go_wp2_with fail
      refine CT.out.mono ?_
      rintro e w2 ⟨rfl, hr2, hc2, ht2⟩
      have h7 : ((csAt k c s 5).setIfInBounds 6 (.string (stepT (rdAt s 5)).1))[7]? = some (.string ⟨#[]⟩) := by rw [csAt_five]; rfl
      have CU := chid (rdText_any rb cb 7 (stepT (rdAt s 5)).2 _ w2 (Nat.le_trans (stepT_size _).2 (Nat.le_trans (rdAt_size s 5) hs)) hr2 hne hc2 h7)
      have HT2 := chid (HTW.out.trans ht2)
      clear hr2 hc2 ht2 CT h7
      go_wp2_with fail
      refine CU.out.mono ?_
      rintro e w3 ⟨rfl, hr3, hc3, ht3⟩
      have HR3 := chid hr3
      have HC3 := chid hc3
      have HT3 := chid (HT2.out.trans ht3)
      clear hr3 hc3 ht3 CU
      go_wp2
      go_end0
      refine ⟨rfl, HR3.out, ?_, HT3.out⟩
      have h := HC3.out
      rw [csAt_five] at h
      exact h

end Go.Proofs.YtkmeiilnjkmkiaiDoor

namespace Go.Proofs.YtkmeiilnjkmkiaiDoor

open Go.RowKit

set_option maxHeartbeats 1600000 in
theorem op_eqIn (d : Nat) (k n k' n' : Int) (a b a' b' : ByteArray) (w : World) : (Op.equalIn (d + 2) 43 (.agg #[.int .i64 k, .string a, .string b, .int .i64 n]) (.agg #[.int .i64 k', .string a', .string b', .int .i64 n'])).run Tryd.prog w = .ok (k == k' && (a.toList == a'.toList && (b.toList == b'.toList && n == n'))) w := by
  have u3 := Tryd.underlying3
  have a3 := Tryd.isAgg3
  have z3 := Tryd.sizeOf3
  have u9 := Tryd.underlying9
  have a9 := Tryd.isAgg9
  have z9 := Tryd.sizeOf9
  have hS : Tryd.prog.underlying 43 = some (.struct (Tryd.prog.fieldsOf 43)) := by kernel_rfl
  have hp : Tryd.prog.stoodInHeld 43 = false := by kernel_rfl
  rw [run_equalIn_agg w (d + 1) 43 _ _ hS hp]
  simp only [Program.fieldsOf, Tryd.underlying43]
  go_simp
  by_cases h1 : k = k'
  · by_cases h2 : a.toList = a'.toList
    · by_cases h3 : b.toList = b'.toList
      · by_cases h4 : n = n'
        · simp [h1, h2, h3, h4]
        · simp [h1, h2, h3, h4]
      · simp [h1, h2, h3]
    · simp [h1, h2]
  · simp [h1]

set_option maxHeartbeats 1600000 in
/-- Two commands are equal where all their parts are. -/
theorem cmd_eqIn (d : Nat) (k c s q u ok n k' c' s' q' u' ok' n' : Int) (a b a' b' : ByteArray) (w : World) :
    (Op.equalIn (d + 3) 45 (.agg #[.int .i64 k, .int .i64 c, .int .i64 s, .int .i64 q, .int .i64 u, .int .i64 ok, .string a, .string b, .int .i64 n]) (.agg #[.int .i64 k', .int .i64 c', .int .i64 s', .int .i64 q', .int .i64 u', .int .i64 ok', .string a', .string b', .int .i64 n'])).run Tryd.prog w
      = .ok (k == k' && (c == c' && (s == s' && (q == q' && (u == u' && (ok == ok' && (a.toList == a'.toList && (b.toList == b'.toList && n == n')))))))) w := by
  have u3 := Tryd.underlying3
  have a3 := Tryd.isAgg3
  have z3 := Tryd.sizeOf3
  have a34 := Tryd.isAgg43
  have z34 := Tryd.sizeOf43
  have ho := op_eqIn d ok n ok' n' a b a' b'
  have hS : Tryd.prog.underlying 45 = some (.struct (Tryd.prog.fieldsOf 45)) := by kernel_rfl
  have hp : Tryd.prog.stoodInHeld 45 = false := by kernel_rfl
  rw [run_equalIn_agg w (d + 2) 45 _ _ hS hp]
  simp only [Program.fieldsOf, Tryd.underlying45]
  go_simp
  by_cases h1 : k = k'
  · by_cases h2 : c = c'
    · by_cases h3 : s = s'
      · by_cases h4 : q = q'
        · by_cases h5 : u = u'
          · cases h6 : (ok == ok' && (a.toList == a'.toList && (b.toList == b'.toList && n == n')))
            · simp [h1, h2, h3, h4, h5]; simpa using h6
            · simp [h1, h2, h3, h4, h5]; simpa using h6
          · simp [h1, h2, h3, h4, h5]
        · simp [h1, h2, h3, h4]
      · simp [h1, h2, h3]
    · simp [h1, h2]
  · simp [h1]

/-- Is a command empty but for its kind and its client? -/
theorem cmd_empty (k c s q u ok n : Int) (a b : ByteArray) (h : s = 0 ∧ q = 0 ∧ u = 0 ∧ ok = 0 ∧ a.size = 0 ∧ b.size = 0 ∧ n = 0) (w : World) :
    (binOp .neq 45 (.agg #[.int .i64 k, .int .i64 c, .int .i64 s, .int .i64 q, .int .i64 u, .int .i64 ok, .string a, .string b, .int .i64 n]) (.agg #[.int .i64 k, .int .i64 c, .int .i64 0, .int .i64 0, .int .i64 0, .int .i64 0, .string ⟨#[]⟩, .string ⟨#[]⟩, .int .i64 0])).run Tryd.prog w = .ok (.bool false) w := by
  obtain ⟨rfl, rfl, rfl, rfl, ha, hb, rfl⟩ := h
  obtain rfl := size_zero ha
  obtain rfl := size_zero hb
  rw [run_neq_struct, show (10000 : Nat) = 9997 + 3 from rfl, cmd_eqIn]
  simp

theorem cmd_filled (k c s q u ok n : Int) (a b : ByteArray) (h : ¬ (s = 0 ∧ q = 0 ∧ u = 0 ∧ ok = 0 ∧ a.size = 0 ∧ b.size = 0 ∧ n = 0)) (w : World) :
    (binOp .neq 45 (.agg #[.int .i64 k, .int .i64 c, .int .i64 s, .int .i64 q, .int .i64 u, .int .i64 ok, .string a, .string b, .int .i64 n]) (.agg #[.int .i64 k, .int .i64 c, .int .i64 0, .int .i64 0, .int .i64 0, .int .i64 0, .string ⟨#[]⟩, .string ⟨#[]⟩, .int .i64 0])).run Tryd.prog w = .ok (.bool true) w := by
  rw [run_neq_struct, show (10000 : Nat) = 9997 + 3 from rfl, cmd_eqIn]
  have hx : (k == k && (c == c && (s == 0 && (q == 0 && (u == 0 && (ok == 0 && (a.toList == (⟨#[]⟩ : ByteArray).toList && (b.toList == (⟨#[]⟩ : ByteArray).toList && n == 0)))))))) = false := by
    cases hc : (k == k && (c == c && (s == 0 && (q == 0 && (u == 0 && (ok == 0 && (a.toList == (⟨#[]⟩ : ByteArray).toList && (b.toList == (⟨#[]⟩ : ByteArray).toList && n == 0)))))))) with
    | false => rfl
    | true =>
      simp only [Bool.and_eq_true, beq_iff_eq, ByteArray.toList_eq] at hc
      obtain ⟨-, -, e1, e2, e3, e4, e5, e6, e7⟩ := hc
      refine absurd ⟨e1, e2, e3, e4, ?_, ?_, e7⟩ h
      · have : a.data.toList.length = a.size := by simp
        rw [← this, e5]; rfl
      · have : b.data.toList.length = b.size := by simp
        rw [← this, e6]; rfl
  rw [hx]
  rfl

end Go.Proofs.YtkmeiilnjkmkiaiDoor
