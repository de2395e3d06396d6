/- slices.Delete of one number out of a row of a call's own: by the shelf's contract. -/
import Derived.Shelf.Lays2
import Derived.Shelf.Slices.Delete
import Derived.Test.YtkmkocbpclkhhacOwnMem
namespace Go.Proofs.Ytkmkocbpclkhhac
open Go.RowKit Go.Shelf Go.Sort

def delRen : Go.Shelf.Ren := ⟨fun | 23 => 40 | n => n, fun | 0 => 0 | 3 => 3 | 4 => 4 | 22 => 43 | n => n, fun | n => n⟩

theorem delLays : Go.Proofs.Lays2.n23 Try.prog delRen := {
  mixed := by kernel_rfl
  f23 := Try.func40.trans (congrArg some (by kernel_rfl))
  t0 := Try.underlying0
  a0 := Try.isAgg0
  z0 := Try.sizeOf0
  v0 := Try.zeroValue0
  t3 := Try.underlying3
  a3 := Try.isAgg3
  z3 := Try.sizeOf3
  v3 := Try.zeroValue3
  t4 := Try.underlying4
  a4 := Try.isAgg4
  z4 := Try.sizeOf4
  v4 := Try.zeroValue4
  t22 := Try.underlying43
  a22 := Try.isAgg43
  z22 := Try.sizeOf43
  v22 := Try.zeroValue43
  i3 := by kernel_rfl }

theorem heap_putRow {α : Type} [Inhabited α] (enc : α → Value) (w : World) (blk off q : Nat) (d : Array α) (cs : Array Value) (t : TypeId) (fr : Nat × Nat) (h : w.heap[blk]? = some (.cells cs t fr)) :
    (putRow enc (Sort.ahead w q) blk off d).heap[blk]? = some (.cells (putCells enc off d cs) t fr) := by
  simp [putRow, mapBlock, Array.getElem?_modify, onCells, h]

theorem heap_putRow_other {α : Type} [Inhabited α] (enc : α → Value) (w : World) (blk off q k : Nat) (d : Array α) (hk : k ≠ blk) :
    (putRow enc (Sort.ahead w q) blk off d).heap[k]? = w.heap[k]? := by
  show (mapBlock _ _ _).heap[k]? = _
  simp only [mapBlock, Array.getElem?_modify]
  rw [if_neg (Ne.symm hk)]
  rfl

theorem deleteInts (g cap i : Nat) (xs : List Int) (w : World) (base : Nat) (hown : w.ownsRow base 3 1 (.slice (some ⟨g, 0, none⟩) xs.length cap) xs.length (intCells xs)) (hi : i < xs.length) :
    Calls Try.prog 40 #[.slice (some ⟨g, 0, none⟩) xs.length cap, .int .i64 i, .int .i64 (i + 1 : Nat)] w fun e w' => e = .returned (.slice (some ⟨g, 0, none⟩) (xs.length - 1) cap) ∧
      w'.ownsRow base 3 1 (.slice (some ⟨g, 0, none⟩) (xs.length - 1) cap) (xs.length - 1) (intCells (xs.eraseIdx i)) ∧ w.grownBy w' (some g) := by
  rcases hown.2 with ⟨h, _⟩ | ⟨g', cap', cur, h, hbg, hg, hnc, hcm, hcs, htake⟩
  · cases h
  simp only [Value.slice.injEq, Option.some.injEq, Addr.mk.injEq, and_true, true_and] at h
  obtain ⟨rfl, rfl⟩ := h
  have hH : Holds (Value.int .i64) w g 0 xs.toArray := fun j hj => by
    have hj' : j < xs.length := by simpa using hj
    have := hown.cellAt j (by omega)
    refine ⟨?_, by simpa using hown.frozenAt (0 + j)⟩
    rw [Nat.zero_add, this, getElem!_pos xs.toArray j hj]
    simp [intCells, hj']
  have hm : cap ≤ 9223372036854775807 := by unfold maxLen at hcm; exact hcm
  refine (Any.slices_Delete_int delLays g 0 cap i (i + 1) xs w hH hnc hm (by omega) (by omega)).mono ?_
  rintro e w' ⟨rfl, q, rfl⟩
  have e1 : xs.length - (i + 1 - i) = xs.length - 1 := by omega
  rw [e1]
  have e2 : xs.take i ++ xs.drop (i + 1) = xs.eraseIdx i := by rw [List.eraseIdx_eq_take_drop_succ]
  have hlen : (xs.eraseIdx i).length = xs.length - 1 := by rw [List.length_eraseIdx]; simp [hi]
  refine ⟨rfl, ⟨by rw [intCells, List.length_map, hlen]; omega, Or.inr ⟨g, cap, _, rfl, hbg, heap_putRow _ w g 0 q _ cur _ _ hg, by omega, hcm, ?_, ?_⟩⟩, ⟨rfl, rfl, rfl, by simp, fun k _ hk => heap_putRow_other _ _ _ _ _ _ _ (fun e => hk (by rw [e]))⟩⟩
  · simp only [putCells, Array.size_mapIdx]
    exact hcs
  · apply List.ext_getElem?
    intro j
    have hcs' : cur.size = cap := by omega
    by_cases hj : j < xs.length - 1
    · have hjc : j < cur.size := by omega
      have hsz : (xs.take i ++ xs.drop (i + 1) ++ List.replicate (i + 1 - i) 0).toArray.size = xs.length := by simp; omega
      rw [List.getElem?_take, if_pos (by omega)]
      simp only [putCells, Array.getElem?_toList, Array.getElem?_mapIdx, Array.getElem?_eq_getElem hjc, Option.map_some]
      rw [if_pos ⟨Nat.zero_le _, by rw [hsz]; omega⟩]
      have hD : ∀ (D : List Int) (E : List Int), D = xs.eraseIdx i ++ E → some (Value.int .i64 D.toArray[j - 0]!) = (intCells (xs.eraseIdx i))[j]? := by
        rintro D E rfl
        rw [Nat.sub_zero, getElem!_pos (xs.eraseIdx i ++ E).toArray j (by simp; omega)]
        simp only [intCells, List.getElem?_map, List.getElem_toArray]
        rw [List.getElem_append_left (by rw [hlen]; exact hj), List.getElem?_eq_getElem (by rw [hlen]; exact hj)]
        rfl
      exact hD _ _ (by rw [e2])
    · rw [List.getElem?_take, if_neg (by omega), List.getElem?_eq_none (by rw [intCells, List.length_map, hlen]; omega)]
end Go.Proofs.Ytkmkocbpclkhhac
