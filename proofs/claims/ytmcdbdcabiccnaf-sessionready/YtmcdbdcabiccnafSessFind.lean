/- slices.IndexFunc over sessions, with whatever closure; session.place. -/
import Derived.Test.YtmcdbdcabiccnafSessMem
import Derived.Shelf.Abstract
import Derived.Deep.QuietTactic
import Derived.BigQuiet
namespace Go.Proofs.Ytmcdbdcabiccnaf
open Go.RowKit

/-- Where the first is that is wanted; -1: there is none. -/
def idxI {α : Type} (p : α → Bool) (ls : List α) : Int := if ls.findIdx p < ls.length then (ls.findIdx p : Int) else -1

theorem idxI_found {α : Type} {p : α → Bool} {ls : List α} {k : Nat} {x : α} (hx : ls[k]? = some x) (hp : p x = true) (hb : ∀ (j : Nat) (y : α), j < k → ls[j]? = some y → p y = false) : idxI p ls = k ∧ ls.findIdx p = k := by
  obtain ⟨hk, he⟩ := List.getElem?_eq_some_iff.1 hx
  have h : ls.findIdx p = k := by
    rw [List.findIdx_eq hk]
    refine ⟨by rw [he]; exact hp, fun j hj => ?_⟩
    have := hb j ls[j] hj (List.getElem?_eq_getElem (by omega))
    simpa using this
  exact ⟨by unfold idxI; rw [h, if_pos hk], h⟩

theorem idxI_none {α : Type} {p : α → Bool} {ls : List α} (hb : ∀ (j : Nat) (y : α), ls[j]? = some y → p y = false) : idxI p ls = -1 ∧ ls.findIdx p = ls.length := by
  have h : ls.findIdx p = ls.length := by
    rw [List.findIdx_eq_length]
    intro y hy
    obtain ⟨j, hj⟩ := List.mem_iff_getElem?.1 hy
    simpa using hb j y hj
  exact ⟨by unfold idxI; rw [h, if_neg (by omega)], h⟩

theorem sret_int {a b : Int} (h : a = b) : Ending.returned (.int .i64 a) = .returned (.int .i64 b) := by rw [h]

/-- What is asked of a closure over sessions. -/
def PredS (cl : Nat) (lb : Array Value) (p : SessD → Bool) (ls : List SessD) (S : Nat → Prop) (w : World) : Prop :=
  ∀ (x : SessD) (ao : Option Addr) (n c : Nat) (w' : World), x ∈ ls → TouchG w w' S → Calls Try.prog cl (#[.agg #[.int .i64 x.client, .int .i64 x.id, .int .i64 x.acked, .int .i64 x.last, .slice ao n c]] ++ lb) w' fun e w'' => e = .returned (.bool (p x)) ∧ Below w'.heap.size w' w''

set_option maxHeartbeats 800000 in
theorem indexS (v : Value) (ls : List SessD) (cl : Nat) (lb : Array Value) (p : SessD → Bool) (S : Nat → Prop) (w : World) (B : Nat) (hv : SessR w B v ls) (hB : B ≤ w.heap.size) (eg : ∀ args w, (callFunc cl args).run Try.prog w = .ok (.enter cl args) w) (hp : PredS cl lb p ls S w) :
    Calls Try.prog 41 #[v, .func (.func cl) #[] lb] w fun e w' => e = .returned (.int .i64 (idxI p ls)) ∧ Below w.heap.size w w' := by
  obtain ⟨ao, cap, rfl, h1, h2, h3, h4⟩ := hv
  have HP := ghid hp
  clear hp
  go_enter Try.func41, Try.ntmps41
  go_wp2
  go_loopw [8] (fun i wr => ∃ k : Nat, k ≤ ls.length ∧ i = .int .i64 k ∧ Hid (∀ (j : Nat) (y : SessD), j < k → ls[j]? = some y → p y = false) ∧ Below w.heap.size w wr) (fun i _ => ls.length - (intOf i).toNat)
  case atStart => exact ⟨0, Nat.zero_le _, rfl, fun j y hj => absurd hj (by omega), Below.refl _ _⟩
  case round =>
    obtain ⟨k, hk, rfl, HF, hb⟩ := hrel
    have hsz := hb.size
    by_cases hlt : k < ls.length
    · obtain ⟨b, off, rfl, hbB, hc⟩ := h4 (by omega)
      obtain ⟨x, hx⟩ : ∃ x, ls[k]? = some x := ⟨_, List.getElem?_eq_getElem hlt⟩
      obtain ⟨lv, c0, c1, c2, c3, c4, hl⟩ := (hc k x hx).below (by omega) hb hB
      obtain ⟨lo, lc, rfl, -⟩ := hl
      have HX := ghid hx
      have C := HP.out x lo x.replies.length lc wr (List.mem_of_getElem? hx) (TouchG.of_below hb (Nat.le_refl _) _)
      have HB := ghid hb
      clear hx hc h4 hb
      cases hq : p x with
      | true =>
        rw [hq] at C
        have HQ := ghid hq
        clear hq
        go_wp2_with fail
        refine C.mono ?_
        rintro e w1 ⟨rfl, hb1⟩
        have HB2 := ghid (HB.out.trans (hb1.mono hsz))
        clear hb1 C
        go_wp2
        go_ret
        exact ⟨sret_int (idxI_found HX.out HQ.out HF.out).1.symm, HB2.out⟩
      | false =>
        rw [hq] at C
        have HN : Hid (∀ (j : Nat) (y : SessD), j < k + 1 → ls[j]? = some y → p y = false) := fun j y hj hy => by
          by_cases e : j = k
          · subst e
            have := HX.out.symm.trans hy
            simp only [Option.some.injEq] at this
            rw [← this]; exact hq
          · exact HF.out j y (by omega) hy
        clear hq
        go_wp2_with fail
        refine C.mono ?_
        rintro e w1 ⟨rfl, hb1⟩
        have HB2 := ghid (HB.out.trans (hb1.mono hsz))
        clear hb1 C
        go_wp2
        go_roundw
        case rel => exact ⟨k + 1, by omega, by go_num, HN, HB2.out⟩
        case measure => simp [intOf]; omega
    · have HN : Hid (∀ (j : Nat) (y : SessD), ls[j]? = some y → p y = false) := fun j y hy => HF.out j y (by have := (List.getElem?_eq_some_iff.1 hy).1; omega) hy
      clear HF
      go_wp2
      go_ret
      exact ⟨sret_int (idxI_none HN.out).1.symm, hb⟩
end Go.Proofs.Ytmcdbdcabiccnaf
