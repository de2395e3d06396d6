/- Where the first element of a list is that is wanted. It names no program; Hear in plain lists. Plain mathematics; no program (joined by program) -/
import Derived.Test.YtcjoekjjebcomalDoorCA01
namespace Go.Proofs.YtcjoekjjebcomalDoor

open Go.RowKit

/-- Where the first is that is wanted; -1: there is none. -/
def idxI {α : Type} (p : α → Bool) (ls : List α) : Int := if ls.findIdx p < ls.length then (ls.findIdx p : Int) else -1

theorem idxI_found {α : Type} {p : α → Bool} {ls : List α} {k : Nat} {x : α} (hx : ls[k]? = some x) (hp : p x = true) (hb : ∀ (j : Nat) (y : α), j < k → ls[j]? = some y → p y = false) : idxI p ls = k ∧ ls.findIdx p = k := by
  obtain ⟨hk, he⟩ := List.getElem?_eq_some_iff.1 hx
  have h : ls.findIdx p = k := by
    rw [List.findIdx_eq hk]
    refine ⟨by rw [he]; exact hp, fun j hj => ?_⟩
    have := hb j ls[j] hj (List.getElem?_eq_getElem (by omega))
    simpa using this
  exact ⟨by unfold idxI; rw [h, if_pos hk], h⟩

theorem idxI_none {α : Type} {p : α → Bool} {ls : List α} (hb : ∀ (j : Nat) (y : α), ls[j]? = some y → p y = false) : idxI p ls = -1 ∧ ls.findIdx p = ls.length := by
  have h : ls.findIdx p = ls.length := by
    rw [List.findIdx_eq_length]
    intro y hy
    obtain ⟨j, hj⟩ := List.mem_iff_getElem?.1 hy
    simpa using hb j y hj
  exact ⟨by unfold idxI; rw [h, if_neg (by omega)], h⟩

theorem sret_int {a b : Int} (h : a = b) : Ending.returned (.int .i64 a) = .returned (.int .i64 b) := by rw [h]

end Go.Proofs.YtcjoekjjebcomalDoor

namespace Go.Proofs.YtcjoekjjebcomalDoor

open Go.RowKit

/-- What a Join's reply does: hearJoin's refusals, and what it makes of a client. -/
def hjE (se rc rn : Int) : Int := if se ≠ 0 then 12 else if (rc = 0 ∨ rc = 7) ∧ ¬ (1 ≤ rn ∧ rn ≤ 1073741824) then 2 else 0

def hjS (se rc rn : Int) : Int := if rc = 0 ∨ rc = 7 then rn else se

/-- What Hear makes of a client; of one that it refuses, nothing. -/
def hearC (c : CustD) (cl q rc rn : Int) : CustD := if hearE c cl q rc rn = 0 then hearL c q rc rn else .zero

theorem idxI_cases {α : Type} (p : α → Bool) (ls : List α) : (idxI p ls = -1 ∧ ls.any p = false) ∨ (∃ (i : Nat) (x : α), idxI p ls = i ∧ ls[i]? = some x ∧ p x = true ∧ ls.any p = true) := by
  by_cases h : ls.findIdx p < ls.length
  · right
    refine ⟨ls.findIdx p, ls[ls.findIdx p], by unfold idxI; rw [if_pos h], List.getElem?_eq_getElem h, List.findIdx_getElem (w := h), ?_⟩
    exact List.any_eq_true.2 ⟨_, List.getElem_mem h, List.findIdx_getElem (w := h)⟩
  · left
    refine ⟨by unfold idxI; rw [if_neg h], ?_⟩
    have hl : ls.findIdx p = ls.length := by have := List.findIdx_le_length (p := p) (xs := ls); omega
    rw [List.findIdx_eq_length] at hl
    exact List.any_eq_false.2 fun x hx => by simpa using hl x hx

/-- The one of that number taken out. -/
theorem filter_erase {q : Int} : ∀ {ws : List WaitD} {i : Nat} {x : WaitD}, ws.Pairwise (fun x y => x.seq < y.seq) → ws[i]? = some x → x.seq = q → ws.filter (fun x => x.seq != q) = ws.eraseIdx i
  | [], i, x, _, h, _ => by simp at h
  | y :: r, 0, x, hp, h, hq => by
    simp only [List.getElem?_cons_zero, Option.some.injEq] at h
    subst h
    cases hp with
    | cons h1 h2 =>
      rw [List.filter_cons, if_neg (by simp [hq])]
      simp only [List.eraseIdx_cons_zero]
      exact List.filter_eq_self.2 fun z hz => by have := h1 z hz; simp; omega
  | y :: r, i + 1, x, hp, h, hq => by
    rw [List.getElem?_cons_succ] at h
    cases hp with
    | cons h1 h2 =>
      have hy := h1 x (List.mem_of_getElem? h)
      rw [List.filter_cons, if_pos (by simp; omega), List.eraseIdx_cons_succ, filter_erase h2 h hq]

theorem hear_join {c : CustD} {cl rc rn : Int} (hc : checkC c = 0) (hcl : cl = c.id) : hearE c cl 0 rc rn = hjE c.session rc rn := by
  have hs := (GoodC.of hc).session
  unfold hearE hjE
  rw [if_neg (by simpa using hc), if_neg (by simpa using hcl), if_pos rfl]
  by_cases h : c.session = 0
  · rw [if_neg (show ¬ 0 < c.session by omega), if_neg (show ¬ c.session ≠ 0 from fun e => e h)]
  · rw [if_pos (show 0 < c.session by omega), if_pos h]

theorem hearL_join (c : CustD) (rc rn : Int) : hearL c 0 rc rn = ⟨c.id, hjS c.session rc rn, c.next, c.waits⟩ := by
  unfold hearL hjS
  rw [if_pos rfl]
  split <;> rfl

theorem hear_call {c : CustD} {cl q rc rn : Int} (hc : checkC c = 0) (hcl : cl = c.id) (hq : q ≠ 0) : hearE c cl q rc rn = if c.waits.any (fun x => x.seq == q) then 0 else 12 := by
  unfold hearE
  rw [if_neg (by simpa using hc), if_neg (by simpa using hcl), if_neg hq]

theorem hearL_call (c : CustD) {q rc rn : Int} (hq : q ≠ 0) (hrc : rc ≠ 11) : hearL c q rc rn = ⟨c.id, c.session, c.next, c.waits.filter (fun x => x.seq != q)⟩ := by
  unfold hearL
  rw [if_neg hq, if_neg hrc]

theorem hearL_away (c : CustD) {q rn : Int} (hq : q ≠ 0) : hearL c q 11 rn = ⟨c.id, 0, c.next, []⟩ := by
  unfold hearL
  rw [if_neg hq, if_pos rfl]

end Go.Proofs.YtcjoekjjebcomalDoor
