/- What a client that may be becomes; a client that asks. Plain mathematics; no program; A block's cells, read, and kept behind callees. It names no program (joined by program) -/
import Derived.Test.YtcjoekjjebcomalDoorCA02
import Derived.Test.YtcjoekjjebcomalDoorCA01
namespace Go.Proofs.YtcjoekjjebcomalDoor

open Go.RowKit

theorem first_le {ws : List WaitD} (ho : ws.Pairwise (fun x y => x.seq < y.seq)) {x : WaitD} (hx : x ∈ ws) : firstW ws ≤ x.seq := by
  cases ws with
  | nil => cases hx
  | cons y r =>
    cases ho with
    | cons h1 h2 =>
      rcases List.mem_cons.1 hx with rfl | hx
      · exact Int.le_refl _
      · have := h1 x hx
        show y.seq ≤ _
        omega

theorem first_mem {ws : List WaitD} (h : 0 < ws.length) : ∃ x ∈ ws, firstW ws = x.seq := by
  cases ws with
  | nil => simp at h
  | cons y r => exact ⟨y, by simp, rfl⟩

/-- Fewer calls of a client that may be. -/
theorem GoodC.sub {c : CustD} (h : GoodC c) {us : List WaitD} (hs : us.Sublist c.waits) : GoodC ⟨c.id, c.session, c.next, us⟩ where
  id := h.id
  session := h.session
  next := h.next
  len := Nat.le_trans hs.length_le h.len
  held := fun hp => h.held (Nat.lt_of_lt_of_le hp hs.length_le)
  each := fun x hx => by
    have h1 := h.each x (hs.subset hx)
    obtain ⟨y, hy, he⟩ := first_mem (ws := us) (List.length_pos_of_mem hx)
    have h2 := first_le h.order (hs.subset hy)
    exact ⟨h1.1, h1.2.1, by show x.seq - firstW us ≤ 3; omega, h1.2.2.2⟩
  order := h.order.sublist hs

theorem GoodC.gone {c : CustD} (h : GoodC c) : GoodC ⟨c.id, 0, c.next, []⟩ where
  id := h.id
  session := ⟨Int.le_refl _, by show (0 : Int) ≤ _; omega⟩
  next := h.next
  len := Nat.zero_le _
  held := fun hp => absurd hp (by simp)
  each := fun x hx => absurd hx (by simp)
  order := List.Pairwise.nil

theorem GoodC.joined {c : CustD} (h : GoodC c) {s : Int} (hs : 1 ≤ s ∧ s ≤ 1073741824) : GoodC ⟨c.id, s, c.next, c.waits⟩ where
  id := h.id
  session := ⟨by show 0 ≤ s; omega, hs.2⟩
  next := h.next
  len := h.len
  held := fun _ => by show s ≠ 0; omega
  each := h.each
  order := h.order

theorem startE_zero {c : CustD} {k n : Int} {a b : ByteArray} (h : startE c k a b n = 0) : checkC c = 0 ∧ c.session ≠ 0 ∧ opE k a b n = 0 ∧ c.next ≤ 1048576 ∧ c.next - knownC c ≤ 4 := by
  unfold startE at h
  split at h
  · rename_i h1; exact absurd h h1
  · rename_i h1
    split at h
    · omega
    · rename_i h2
      split at h
      · rename_i h3; exact absurd h h3
      · rename_i h3
        split at h
        · omega
        · rename_i h4
          exact ⟨Classical.byContradiction h1, h2, Classical.byContradiction h3, by omega, by omega⟩

theorem known_first {c : CustD} (h : 0 < c.waits.length) : knownC c = firstW c.waits - 1 := by
  obtain ⟨id, se, nx, ws⟩ := c
  cases ws with
  | nil => simp at h
  | cons y r => rfl

/-- A call that was started: the client may be. -/
theorem GoodC.started {c : CustD} {k n : Int} {a b : ByteArray} (h : startE c k a b n = 0) : GoodC (startL c k a b n) := by
  obtain ⟨hc, hs, ho, hn, hk⟩ := startE_zero h
  have G := GoodC.of hc
  have hnx := G.next
  have hfirst : firstW (c.waits ++ [⟨c.next, k, a, b, n⟩]) = if 0 < c.waits.length then firstW c.waits else c.next := by
    obtain ⟨id, se, nx, ws⟩ := c
    cases ws <;> rfl
  have hfl : c.next - firstW (c.waits ++ [⟨c.next, k, a, b, n⟩]) ≤ 3 := by
    rw [hfirst]
    split
    · rename_i hp
      rw [known_first hp] at hk
      omega
    · omega
  have hlow : ∀ x ∈ c.waits, x.seq < c.next := fun x hx => by have := (G.each x hx).2.1; omega
  refine ⟨G.id, G.session, ?_, ?_, fun _ => hs, ?_, ?_⟩
  · show 1 ≤ c.next + 1 ∧ c.next + 1 ≤ 1048577
    omega
  · show (c.waits ++ [_]).length ≤ 4
    rw [List.length_append]
    by_cases hp : 0 < c.waits.length
    · -- strictly growing numbers from the first one to below Next
      have key : ∀ (ws : List WaitD) (m : Int), ws.Pairwise (fun x y => x.seq < y.seq) → (∀ x ∈ ws, m ≤ x.seq ∧ x.seq < c.next) → (ws.length : Int) ≤ max 0 (c.next - m) := by
        intro ws
        induction ws with
        | nil => intro m _ _; simp; omega
        | cons y r ih =>
          intro m hp2 hm
          cases hp2 with
          | cons h1 h2 =>
            have hy := hm y (by simp)
            have := ih (y.seq + 1) h2 (fun x hx => ⟨by have := h1 x hx; omega, (hm x (by simp [hx])).2⟩)
            simp only [List.length_cons]
            omega
      have := key c.waits (firstW c.waits) G.order (fun x hx => ⟨first_le G.order hx, hlow x hx⟩)
      rw [known_first hp] at hk
      simp only [List.length_cons, List.length_nil]
      omega
    · simp only [List.length_cons, List.length_nil]
      omega
  · intro x hx
    have hx' : x ∈ c.waits ++ [⟨c.next, k, a, b, n⟩] := hx
    show 1 ≤ x.seq ∧ x.seq ≤ c.next + 1 - 1 ∧ x.seq - firstW (c.waits ++ [⟨c.next, k, a, b, n⟩]) ≤ 3 ∧ _
    rcases List.mem_append.1 hx' with hx' | hx'
    · have h1 := G.each x hx'
      have hp : 0 < c.waits.length := List.length_pos_of_mem hx'
      rw [hfirst, if_pos hp]
      exact ⟨h1.1, by omega, h1.2.2.1, h1.2.2.2⟩
    · have : x = ⟨c.next, k, a, b, n⟩ := by simpa using hx'
      subst this
      exact ⟨hnx.1, by show c.next ≤ _; omega, hfl, ho⟩
  · show (c.waits ++ [_]).Pairwise _
    rw [List.pairwise_append]
    refine ⟨G.order, by simp, fun x hx y hy => ?_⟩
    have : y = ⟨c.next, k, a, b, n⟩ := by simpa using hy
    subst this
    exact hlow x hx

/-- A mail that was heard: the client may be. -/
theorem GoodC.heard {c : CustD} {cl q rc rn : Int} (h : hearE c cl q rc rn = 0) : GoodC (hearL c q rc rn) := by
  have hc : checkC c = 0 := by
    unfold hearE at h
    by_cases e : checkC c = 0
    · exact e
    · rw [if_pos e] at h; exact absurd h e
  have hcl : cl = c.id := by
    unfold hearE at h
    rw [if_neg (by simpa using hc)] at h
    refine Classical.byContradiction fun e => ?_
    rw [if_pos e] at h
    omega
  have G := GoodC.of hc
  by_cases hq : q = 0
  · subst hq
    rw [hear_join hc hcl] at h
    rw [hearL_join]
    unfold hjE at h
    unfold hjS
    by_cases h0 : c.session = 0
    · rw [if_neg (by simpa using h0)] at h
      by_cases hrc : rc = 0 ∨ rc = 7
      · rw [if_pos hrc]
        refine G.joined (Classical.byContradiction fun e => ?_)
        rw [if_pos ⟨hrc, e⟩] at h
        omega
      · rw [if_neg hrc]
        exact G
    · rw [if_pos h0] at h
      omega
  · by_cases hrc : rc = 11
    · subst hrc
      rw [hearL_away c hq]
      exact G.gone
    · rw [hearL_call c hq hrc]
      exact G.sub List.filter_sublist

/-- A client that has started k calls since it joined. -/
structure AskC (i : Int) (k : Nat) (c : CustD) : Prop where
  good : GoodC c
  id : c.id = i
  session : c.session = 5
  next : c.next = (k : Int) + 1
  len : c.waits.length = k
  seq : ∀ (j : Nat) (x : WaitD), c.waits[j]? = some x → x.seq = (j : Int) + 1

theorem AskC.check {i : Int} {k : Nat} {c : CustD} (h : AskC i k c) : checkC c = 0 := h.good.check

theorem AskC.known {i : Int} {k : Nat} {c : CustD} (h : AskC i k c) : knownC c = 0 := by
  have h1 := h.next
  have h2 := h.len
  have h3 := h.seq
  obtain ⟨id, se, nx, ws⟩ := c
  cases ws with
  | nil => simp at h2; subst h2; show nx - 1 = 0; simp at h1; omega
  | cons y r =>
    have := h3 0 y rfl
    show y.seq - 1 = 0
    omega

theorem AskC.startE {i : Int} {k : Nat} {c : CustD} (h : AskC i k c) {kk n : Int} {a b : ByteArray} (ho : opE kk a b n = 0) (hk : k ≤ 4) : startE c kk a b n = if k < 4 then 0 else 8 := by
  unfold Proofs.YtcjoekjjebcomalDoor.startE
  rw [if_neg (by simpa using h.check), if_neg (by rw [h.session]; decide), if_neg (by simpa using ho), h.known, h.next]
  by_cases e : k < 4
  · rw [if_neg (by omega), if_pos e]
  · rw [if_pos (by omega), if_neg e]

theorem AskC.more {i : Int} {k : Nat} {c : CustD} (h : AskC i k c) {kk n : Int} {a b : ByteArray} (ho : opE kk a b n = 0) (hk : k < 4) : AskC i (k + 1) (startL c kk a b n) := by
  have hs := h.startE ho (by omega)
  rw [if_pos hk] at hs
  refine ⟨GoodC.started hs, h.id, h.session, ?_, ?_, ?_⟩
  · show c.next + 1 = _
    rw [h.next]
    omega
  · show (c.waits ++ [_]).length = _
    rw [List.length_append, h.len]
    rfl
  · intro j x hx
    have hx' : (c.waits ++ [⟨c.next, kk, a, b, n⟩])[j]? = some x := hx
    by_cases hj : j < c.waits.length
    · rw [List.getElem?_append_left hj] at hx'
      exact h.seq j x hx'
    · rw [List.getElem?_append_right (by omega)] at hx'
      have hjl := (List.getElem?_eq_some_iff.1 hx').1
      simp at hjl
      have hje : j - c.waits.length = 0 := by omega
      rw [hje] at hx'
      simp at hx'
      subst hx'
      show c.next = _
      have := h.len
      rw [h.next]
      omega

/-- Asked for the first call's reply: it is heard once. -/
theorem AskC.hear1 {i : Int} {c : CustD} (h : AskC i 4 c) : hearE c i 1 0 0 = 0 ∧ (hearC c i 1 0 0).waits.length = 3 ∧ hearE (hearC c i 1 0 0) i 1 0 0 = 12 := by
  obtain ⟨x, hx⟩ : ∃ x, c.waits[0]? = some x := ⟨_, List.getElem?_eq_getElem (by rw [h.len]; omega)⟩
  have hq := h.seq 0 x hx
  have hany : c.waits.any (fun x => x.seq == 1) = true := List.any_eq_true.2 ⟨x, List.mem_of_getElem? hx, by simp [hq]⟩
  have hE : hearE c i 1 0 0 = 0 := by rw [hear_call h.check h.id.symm (by decide), if_pos hany]
  have hC : hearC c i 1 0 0 = ⟨c.id, c.session, c.next, c.waits.filter (fun x => x.seq != 1)⟩ := by unfold hearC; rw [if_pos hE, hearL_call c (by decide) (by decide)]
  have hG : GoodC (hearC c i 1 0 0) := by
    have := GoodC.heard hE
    unfold hearC
    rw [if_pos hE]
    exact this
  refine ⟨hE, ?_, ?_⟩
  · rw [hC]
    show (c.waits.filter _).length = 3
    rw [filter_erase h.good.order hx (by rw [hq]; rfl), List.length_eraseIdx, if_pos (by rw [h.len]; omega), h.len]
  · rw [hear_call hG.check (by rw [hC]; exact h.id.symm) (by decide), if_neg]
    rw [hC]
    intro e
    obtain ⟨y, hy, hy1⟩ := List.any_eq_true.1 e
    have := (List.mem_filter.1 hy).2
    simp at this hy1
    exact this hy1

theorem AskC.hear2 {i : Int} {c : CustD} (h : AskC i 4 c) : hearE c i 2 11 0 = 0 ∧ hearC c i 2 11 0 = ⟨i, 0, 5, []⟩ ∧ checkC ⟨i, 0, 5, []⟩ = 0 := by
  obtain ⟨x, hx⟩ : ∃ x, c.waits[1]? = some x := ⟨_, List.getElem?_eq_getElem (by rw [h.len]; omega)⟩
  have hq := h.seq 1 x hx
  have hany : c.waits.any (fun x => x.seq == 2) = true := List.any_eq_true.2 ⟨x, List.mem_of_getElem? hx, by simp [hq]⟩
  have hE : hearE c i 2 11 0 = 0 := by rw [hear_call h.check h.id.symm (by decide), if_pos hany]
  have hg := h.good.gone
  rw [h.id, h.next] at hg
  refine ⟨hE, by unfold hearC; rw [if_pos hE, hearL_away c (by decide), h.id, h.next]; rfl, hg.check⟩

theorem new_good {i : Int} (hi : 1 ≤ i ∧ i ≤ 9) : GoodC ⟨i, 0, 1, []⟩ where
  id := hi
  session := by show (0 : Int) ≤ 0 ∧ (0 : Int) ≤ _; omega
  next := by show (1 : Int) ≤ 1 ∧ (1 : Int) ≤ _; omega
  len := Nat.zero_le _
  held := fun hp => absurd hp (by simp)
  each := fun x hx => absurd hx (by simp)
  order := List.Pairwise.nil

theorem new_start {i : Int} (hi : 1 ≤ i ∧ i ≤ 9) (k n : Int) (a b : ByteArray) : startE ⟨i, 0, 1, []⟩ k a b n = 11 := by
  unfold startE
  rw [if_neg (by simpa using (new_good hi).check), if_pos rfl]

theorem new_hear {i : Int} (hi : 1 ≤ i ∧ i ≤ 9) : hearE ⟨i, 0, 1, []⟩ i 0 0 5 = 0 ∧ hearC ⟨i, 0, 1, []⟩ i 0 0 5 = ⟨i, 5, 1, []⟩ ∧ AskC i 0 ⟨i, 5, 1, []⟩ := by
  have hE : hearE ⟨i, 0, 1, []⟩ i 0 0 5 = 0 := by rw [hear_join (new_good hi).check rfl]; exact (by decide : hjE 0 0 5 = 0)
  have hC : hearC ⟨i, 0, 1, []⟩ i 0 0 5 = ⟨i, 5, 1, []⟩ := by unfold hearC; rw [if_pos hE, hearL_join]; rfl
  have hg := GoodC.heard hE
  rw [hearL_join] at hg
  exact ⟨hE, hC, hg, rfl, rfl, rfl, rfl, fun j x hx => by simp at hx⟩

end Go.Proofs.YtcjoekjjebcomalDoor

namespace Go.Proofs.YtcjoekjjebcomalDoor

open Go.RowKit

/-- A block's cells, read. -/
theorem cells_of {w : World} {g : Nat} {cs : Array Value} {t : TypeId} (h : w.heap[g]? = some (.cells cs t (0, 0))) (j : Nat) : w.cell? ⟨g, j, none⟩ = cs[j]? := cell_of_row w g j _ _ _ h

theorem heap_set {w : World} {p j : Nat} {cs : Array Value} {t : TypeId} (h : w.heap[p]? = some (.cells cs t (0, 0))) (u : Value) : (w.setCell ⟨p, j, none⟩ u).heap[p]? = some (.cells (cs.setIfInBounds j u) t (0, 0)) := by
  simp only [World.setCell]
  rw [Array.getElem?_modify, h]
  simp

/-- What the walk wants of a state's block. -/
theorem state_cells {w : World} {p : Nat} {x0 x1 x2 x3 : Value} {t : TypeId} (h : w.heap[p]? = some (.cells #[x0, x1, x2, x3] t (0, 0))) :
    w.cell? ⟨p, 0, none⟩ = some x0 ∧ w.cell? ⟨p, 1, none⟩ = some x1 ∧ w.cell? ⟨p, 2, none⟩ = some x2 ∧ w.cell? ⟨p, 3, none⟩ = some x3 ∧ (∀ j, w.frozen? ⟨p, j, none⟩ = false) ∧ p < w.heap.size :=
  ⟨cells_of h 0, cells_of h 1, cells_of h 2, cells_of h 3, fun j => frozen_of_row w p j _ _ h, (Array.getElem?_eq_some_iff.1 h).1⟩

theorem reply_cells {w : World} {p : Nat} {x0 x1 x2 : Value} {t : TypeId} (h : w.heap[p]? = some (.cells #[x0, x1, x2] t (0, 0))) :
    w.cell? ⟨p, 0, none⟩ = some x0 ∧ w.cell? ⟨p, 1, none⟩ = some x1 ∧ w.cell? ⟨p, 2, none⟩ = some x2 ∧ (∀ j, w.frozen? ⟨p, j, none⟩ = false) ∧ p < w.heap.size :=
  ⟨cells_of h 0, cells_of h 1, cells_of h 2, fun j => frozen_of_row w p j _ _ h, (Array.getElem?_eq_some_iff.1 h).1⟩

/-- Behind a callee that left all that lay. -/
theorem behind {w W w2 : World} {p : Nat} {o1 : Obj} (hp : w.heap[p]? = some o1) (hW : Below w.heap.size w W) (hb : Below W.heap.size W w2) : w2.heap[p]? = some o1 := by
  have hl := (Array.getElem?_eq_some_iff.1 hp).1
  rw [hb.block p (by have := hW.size; omega), hW.block p hl, hp]

theorem two_newB {w w2 : World} {A R : Obj} (hb : Below (w.heap.size + 2) ((w.alloc A).alloc R) w2) : w2.heap[w.heap.size + 1]? = some R ∧ w2.heap[w.heap.size]? = some A := by
  have h1 := heap_alloc_new (w.alloc A) R
  rw [World.size_alloc] at h1
  have h2 : ((w.alloc A).alloc R).heap[w.heap.size]? = some A := by
    rw [Below.heap_alloc _ _ _ (by simp)]
    exact heap_alloc_new w A
  exact ⟨(hb.block _ (by omega)).trans h1, (hb.block _ (by omega)).trans h2⟩

theorem five_cells {w : World} {p : Nat} {x0 x1 x2 x3 x4 : Value} {t : TypeId} (h : w.heap[p]? = some (.cells #[x0, x1, x2, x3, x4] t (0, 0))) :
    w.cell? ⟨p, 0, none⟩ = some x0 ∧ w.cell? ⟨p, 1, none⟩ = some x1 ∧ w.cell? ⟨p, 2, none⟩ = some x2 ∧ w.cell? ⟨p, 3, none⟩ = some x3 ∧ w.cell? ⟨p, 4, none⟩ = some x4 ∧ (∀ j, w.frozen? ⟨p, j, none⟩ = false) ∧ p < w.heap.size :=
  ⟨cells_of h 0, cells_of h 1, cells_of h 2, cells_of h 3, cells_of h 4, fun j => frozen_of_row w p j _ _ h, (Array.getElem?_eq_some_iff.1 h).1⟩

end Go.Proofs.YtcjoekjjebcomalDoor
