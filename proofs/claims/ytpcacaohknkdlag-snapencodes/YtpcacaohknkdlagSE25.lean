/- A block's cells, read, and kept behind callees. It names no program; The document's joinedNumbers and worded: numbers, and a text, as bytes (joined by program) -/
import Derived.Test.YtpcacaohknkdlagSE01
import Derived.Test.YtpcacaohknkdlagSE23
import Derived.Test.YtpcacaohknkdlagSE24
namespace Go.Proofs.Ytpcacaohknkdlag

open Go.RowKit

/-- A block's cells, read. -/
theorem cells_of {w : World} {g : Nat} {cs : Array Value} {t : TypeId} (h : w.heap[g]? = some (.cells cs t (0, 0))) (j : Nat) : w.cell? ⟨g, j, none⟩ = cs[j]? := cell_of_row w g j _ _ _ h

/-- What the walk wants of a state's block. -/
theorem state_cells {w : World} {p : Nat} {x0 x1 x2 x3 : Value} {t : TypeId} (h : w.heap[p]? = some (.cells #[x0, x1, x2, x3] t (0, 0))) :
    w.cell? ⟨p, 0, none⟩ = some x0 ∧ w.cell? ⟨p, 1, none⟩ = some x1 ∧ w.cell? ⟨p, 2, none⟩ = some x2 ∧ w.cell? ⟨p, 3, none⟩ = some x3 ∧ (∀ j, w.frozen? ⟨p, j, none⟩ = false) ∧ p < w.heap.size :=
  ⟨cells_of h 0, cells_of h 1, cells_of h 2, cells_of h 3, fun j => frozen_of_row w p j _ _ h, (Array.getElem?_eq_some_iff.1 h).1⟩

/-- Behind a callee that left all that lay. -/
theorem behind {w W w2 : World} {p : Nat} {o1 : Obj} (hp : w.heap[p]? = some o1) (hW : Below w.heap.size w W) (hb : Below W.heap.size W w2) : w2.heap[p]? = some o1 := by
  have hl := (Array.getElem?_eq_some_iff.1 hp).1
  rw [hb.block p (by have := hW.size; omega), hW.block p hl, hp]

theorem five_cells {w : World} {p : Nat} {x0 x1 x2 x3 x4 : Value} {t : TypeId} (h : w.heap[p]? = some (.cells #[x0, x1, x2, x3, x4] t (0, 0))) :
    w.cell? ⟨p, 0, none⟩ = some x0 ∧ w.cell? ⟨p, 1, none⟩ = some x1 ∧ w.cell? ⟨p, 2, none⟩ = some x2 ∧ w.cell? ⟨p, 3, none⟩ = some x3 ∧ w.cell? ⟨p, 4, none⟩ = some x4 ∧ (∀ j, w.frozen? ⟨p, j, none⟩ = false) ∧ p < w.heap.size :=
  ⟨cells_of h 0, cells_of h 1, cells_of h 2, cells_of h 3, cells_of h 4, fun j => frozen_of_row w p j _ _ h, (Array.getElem?_eq_some_iff.1 h).1⟩

end Go.Proofs.Ytpcacaohknkdlag

namespace Go.Proofs.Ytpcacaohknkdlag

open Go.RowKit

theorem take_more {α : Type} {xs : List α} {k : Nat} {x : α} (h : xs[k]? = some x) : xs.take (k + 1) = xs.take k ++ [x] := by
  obtain ⟨hl, rfl⟩ := List.getElem?_eq_some_iff.1 h
  exact List.take_succ_eq_append_getElem hl

set_option maxHeartbeats 1600000 in
theorem joined_any (v : Value) (xs : List Int) (w : World) (B : Nat) (hv : IntsR w B v xs) (hB : B ≤ w.heap.size) (hx : ∀ x ∈ xs, 0 ≤ x ∧ x ≤ 1099511627776) (hl : xs.length ≤ 100) :
    Calls Try.prog 23 #[v] w fun e w' => e = .returned (.string (catB (xs.map numOut))) ∧ Below w.heap.size w w' := by
  obtain ⟨ao, cap, rfl, h1, h2, h3, h4⟩ := hv
  have HX := ghid hx
  clear hx h3
  go_enter Try.func23, Try.ntmps23
  go_wp2
  go_loopw [3, 4] (fun t i wr => ∃ k : Nat, k ≤ xs.length ∧ i = .int .i64 k ∧ t = .string (catB ((xs.take k).map numOut)) ∧ Below w.heap.size w wr) (fun _ i _ => xs.length - (intOf i).toNat)
  case atStart => exact ⟨0, Nat.zero_le _, rfl, rfl, Below.refl _ _⟩
  case round =>
    obtain ⟨k, hk, rfl, rfl, hb⟩ := hrel
    by_cases hlt : k < xs.length
    · obtain ⟨b, off, rfl, hbB, hc⟩ := h4 (by omega)
      obtain ⟨x, hx⟩ : ∃ x, xs[k]? = some x := ⟨_, List.getElem?_eq_getElem hlt⟩
      have c0 := (hb.cell (p := ⟨b, off + k, none⟩) (by show b < w.heap.size; omega)).trans (hc k x hx)
      have hxb := HX.out x (List.mem_of_getElem? hx)
      have CN := ghid (fun w => numberBytes_ok x w hxb.1 hxb.2)
      have hz := catB_size numOut 6 (xs.take k) (fun x _ => numOut_le x)
      have hzx : (strOfNums (encN x)).size ≤ 6 := numOut_le x
      have HS : Hid (catB ((xs.take (k + 1)).map numOut) = catB ((xs.take k).map numOut) ++ strOfNums (encN x)) := by
        unfold Hid
        rw [take_more hx, List.map_append, List.map_cons, List.map_nil, catB_snoc]
        rfl
      obtain ⟨t, ht⟩ : ∃ t, t = strOfNums (encN x) := ⟨_, rfl⟩
      obtain ⟨u, hu⟩ : ∃ u, u = catB ((xs.take k).map numOut) := ⟨_, rfl⟩
      rw [← ht] at CN HS hzx
      rw [← hu] at HS hz ⊢
      have hkk : (xs.take k).length * 6 ≤ 600 := by rw [List.length_take]; omega
      have hsum : u.size + t.size ≤ 1000 := by omega
      have HB := ghid hb
      clear hx hxb ht hu hz hzx hkk hb hc h4
      go_wp2_with fail
      refine (CN.out _).mono ?_
      rintro e w1 ⟨rfl, hb1⟩
      have HB1 := ghid (HB.out.trans (hb1.mono HB.out.size))
      clear hb1 c0 CN
      go_wp2
      go_roundw
      case rel => exact ⟨k + 1, by omega, by go_num, by rw [HS.out], HB1.out⟩
      case measure => simp [intOf]; omega
    · have hke : k = xs.length := by omega
      subst hke
      rw [List.take_length]
      clear h4
      go_wp2
      go_ret
      exact ⟨rfl, hb⟩

theorem worded_any (s : ByteArray) (w : World) (h : s.size ≤ 5000) :
    Calls Try.prog 24 #[.string s] w fun e w' => e = .returned (.string (textOut s)) ∧ Below w.heap.size w w' := by
  have C := ghid (textBytes_ok s w h)
  go_enter Try.func24, Try.ntmps24
  go_wp2_with fail
  refine C.out.mono ?_
  rintro e w1 ⟨rfl, hb1⟩
  go_wp2
  go_ret
  exact ⟨rfl, hb1⟩

/-- Numbers of a literal. -/
theorem ints_lit {w : World} {b : Nat} {xs : List Int} (h : w.heap[b]? = some (.cells (xs.map (Value.int .i64)).toArray 3 (0, 0))) (hl : xs.length ≤ 100) : IntsR w w.heap.size (.slice (some ⟨b, 0, none⟩) xs.length xs.length) xs := by
  refine ⟨_, _, rfl, Nat.le_refl _, by omega, (by intro h; cases h), fun _ => ⟨b, 0, rfl, (Array.getElem?_eq_some_iff.1 h).1, fun i x hx => ?_⟩⟩
  rw [Nat.zero_add, cells_of h i]
  simp [hx]

end Go.Proofs.Ytpcacaohknkdlag
