/- What holds of a lock that a client has: who is told, who is refused, what giving it up leaves. Plain lists. -/
import Derived.Test.YtkmkocbpclkhhacGoneMath
import Derived.Test.YtkmkocbpclkhhacLockWho
namespace Go.Proofs.Ytkmkocbpclkhhac
open Go.RowKit

theorem atL_is {ls : List LockD} {nm : ByteArray} {k : Nat} {y : LockD} (h : ls[k]? = some y) (he : eqN y.name nm = true) (hm : ∀ (j : Nat) (x : LockD), j < k → ls[j]? = some x → eqN x.name nm = false) : atL ls nm = k := by
  have hk : k < ls.length := (List.getElem?_eq_some_iff.1 h).1
  rcases Nat.lt_trichotomy (atL ls nm) k with hlt | heq | hgt
  · obtain ⟨x, hx, hxe⟩ := atL_found (ls := ls) (nm := nm) (by omega)
    rw [hm _ x hlt hx] at hxe
    cases hxe
  · exact heq
  · rw [atL_min k y hgt h] at he
    cases he

theorem atL_set {ls : List LockD} {nm : ByteArray} {y z : LockD} (h : ls[atL ls nm]? = some y) (he : eqN y.name nm = true) (hn : z.name = y.name) : atL (ls.set (atL ls nm) z) nm = atL ls nm := by
  have hk : atL ls nm < ls.length := (List.getElem?_eq_some_iff.1 h).1
  refine atL_is (y := z) (by rw [List.getElem?_set_self hk]) (by rw [hn]; exact he) (fun j x hj hx => ?_)
  rw [List.getElem?_set_ne (by omega)] at hx
  exact atL_min j x hj hx

/-- A client has the lock. -/
theorem has_facts {ls : List LockD} {nm : ByteArray} {a : Int} {y : LockD} (h : ls[atL ls nm]? = some y) (he : eqN y.name nm = true) (hok : LockOk y) (hy : y.holder = a) (ha : 1 ≤ a) (ha8 : a ≤ 8) :
    whoL ls nm = (a, y.fence) ∧ (∃ xs, takeL ls nm 9 false = (xs, 10, a)) ∧ ∃ c f, freeL ls nm a = (ls.set (atL ls nm) (giveUpX y), 0, c) ∧ whoL (ls.set (atL ls nm) (giveUpX y)) nm = (c, f) ∧ c ≠ a := by
  have hk : atL ls nm < ls.length := (List.getElem?_eq_some_iff.1 h).1
  have e : ls[atL ls nm] = y := (List.getElem?_eq_some_iff.1 h).2
  refine ⟨?_, ?_, ?_⟩
  · unfold whoL
    rw [h]
    simp only
    rw [if_neg (by omega), hy]
  · refine ⟨ls.set (atL ls nm) y, ?_⟩
    unfold takeL
    rw [dif_pos hk, e]
    have : takeX y 9 false = (y, 10, a) := by
      unfold takeX meetX
      rw [if_neg (by omega), if_pos (by omega), if_neg (by simp), hy]
    rw [this]
  · have hf := freeL_found (who := a) hk h
    rw [leaveX_holder hy] at hf
    have hq : hasX y a = true := by simp [hasX, hy]
    rw [if_pos hq] at hf
    have hw : whoL (ls.set (atL ls nm) (giveUpX y)) nm = if (giveUpX y).holder = 0 then (0, 0) else ((giveUpX y).holder, (giveUpX y).fence) := by
      unfold whoL
      rw [atL_set h he (giveUpX_name y).1, List.getElem?_set_self hk]
    have hne := (leave_facts hok ha).1
    rw [leaveX_holder hy] at hne
    refine ⟨_, (if (giveUpX y).holder = 0 then 0 else (giveUpX y).fence), hf, ?_, hne⟩
    rw [hw]
    by_cases h0 : (giveUpX y).holder = 0
    · simp [h0]
    · simp [h0]

/-- What a take that is not refused leaves. -/
theorem take_facts {ls : List LockD} {nm : ByteArray} {a : Int} (hg : Good 31 ls) (hn : IsK nm) (ha : 1 ≤ a) (ha8 : a ≤ 8) :
    (∃ o f xs, whoL ls nm = (o, f) ∧ o ≠ 0 ∧ o ≠ a ∧ takeL ls nm a false = (xs, 10, o)) ∨
    ∃ o f xs m, whoL ls nm = (o, f) ∧ (o = 0 ∧ f < m ∨ o = a ∧ f = m) ∧ takeL ls nm a false = (xs, 0, m) ∧ Good 32 xs ∧ ∃ y, xs[atL xs nm]? = some y ∧ eqN y.name nm = true ∧ LockOk y ∧ y.holder = a ∧ y.fence = m := by
  have hgt := hg.take hn ha (by omega) (by omega) false
  by_cases hat : atL ls nm < ls.length
  · obtain ⟨x, hx, hxe⟩ := atL_found hat
    have e : ls[atL ls nm] = x := (List.getElem?_eq_some_iff.1 hx).2
    obtain ⟨hok, hf1, hf2, hk⟩ := hg.each x (List.mem_of_getElem? hx)
    have ht : takeL ls nm a false = (ls.set (atL ls nm) (takeX x a false).1, (takeX x a false).2.1, (takeX x a false).2.2) := by
      unfold takeL
      rw [dif_pos hat, e]
    have hw : whoL ls nm = if x.holder = 0 then (0, 0) else (x.holder, x.fence) := by unfold whoL; rw [hx]
    have hset : (ls.set (atL ls nm) (takeX x a false).1)[atL (ls.set (atL ls nm) (takeX x a false).1) nm]? = some (takeX x a false).1 := by
      rw [atL_set hx hxe (takeX_name x a false).1, List.getElem?_set_self hat]
    have hok' := hok.take ha (by omega) false
    have hne' : eqN (takeX x a false).1.name nm = true := by rw [(takeX_name x a false).1]; exact hxe
    rw [ht] at hgt
    by_cases h0 : x.holder = 0
    · right
      have et : takeX x a false = ({ x with holder := a, fence := x.fence + 1 }, 0, x.fence + 1) := by
        unfold takeX
        rw [if_neg (by omega), if_neg (by simpa using h0), if_neg (by omega)]
      rw [et] at ht hset hok' hne' hgt
      refine ⟨0, 0, _, x.fence + 1, by rw [hw, if_pos h0], Or.inl ⟨rfl, by omega⟩, ht, hgt, _, hset, hne', hok', rfl, rfl⟩
    · by_cases ha' : x.holder = a
      · right
        have et : takeX x a false = (x, 0, x.fence) := by unfold takeX; rw [if_pos ha']
        rw [et] at ht hset hok' hne' hgt
        refine ⟨a, x.fence, _, x.fence, by rw [hw, if_neg h0, ha'], Or.inr ⟨rfl, rfl⟩, ht, hgt, _, hset, hne', hok', ha', rfl⟩
      · left
        have et : takeX x a false = (x, 10, x.holder) := by
          unfold takeX meetX
          rw [if_neg ha', if_pos h0, if_neg (by simp)]
        rw [et] at ht
        exact ⟨x.holder, x.fence, _, by rw [hw, if_neg h0], h0, ha', ht⟩
  · right
    have h3 := hg.len
    have ht : takeL ls nm a false = (ls.take (placeL ls nm) ++ ⟨nm, a, 1, []⟩ :: ls.drop (placeL ls nm), 0, 1) := by
      unfold takeL
      rw [dif_neg hat, if_neg (by omega)]
    have hw : whoL ls nm = (0, 0) := by unfold whoL; rw [List.getElem?_eq_none (by omega)]
    have hpl : placeL ls nm ≤ ls.length := List.findIdx_le_length
    have hlen : (ls.take (placeL ls nm)).length = placeL ls nm := by rw [List.length_take]; omega
    have hself : eqN nm nm = true := by simp [eqN]
    have hgetk : (ls.take (placeL ls nm) ++ (⟨nm, a, 1, []⟩ : LockD) :: ls.drop (placeL ls nm))[placeL ls nm]? = some ⟨nm, a, 1, []⟩ := by
      rw [List.getElem?_append_right (by omega), hlen, Nat.sub_self]
      rfl
    have hatk : atL (ls.take (placeL ls nm) ++ (⟨nm, a, 1, []⟩ : LockD) :: ls.drop (placeL ls nm)) nm = placeL ls nm := atL_is hgetk hself (fun j x hj hx => by
      rw [List.getElem?_append_left (by omega), List.getElem?_take, if_pos hj] at hx
      exact atL_none hat j x hx)
    rw [ht] at hgt
    have hok : LockOk ⟨nm, a, 1, []⟩ := ⟨hn.nameB, by simp only; omega, by simp only; omega, ⟨by simp, fun _ => rfl, by simp, by simp⟩⟩
    exact ⟨0, 0, _, 1, hw, Or.inl ⟨rfl, by omega⟩, ht, hgt, _, by rw [hatk]; exact hgetk, hself, hok, rfl, rfl⟩
end Go.Proofs.Ytkmkocbpclkhhac
