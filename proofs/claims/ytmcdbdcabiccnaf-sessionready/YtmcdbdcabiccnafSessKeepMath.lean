/- Plain mathematics of Keep. (Written by gen_keep.py.) -/
import Derived.Test.YtmcdbdcabiccnafSessJoinMath
namespace Go.Proofs.Ytmcdbdcabiccnaf
open Go.RowKit

theorem keepE_check {ls : List SessD} {i c : Int} {k : KeptD} (h : checkS ls i ≠ 0) : keepE ls i c k = checkS ls i := by unfold keepE; rw [if_pos h]
theorem keepE_away {ls : List SessD} {i c : Int} {k : KeptD} (h : checkS ls i = 0) (ht : thereS ls c = false) : keepE ls i c k = 11 := by unfold keepE; rw [if_neg (by simpa using h), ht]
theorem keepE_twice {ls : List SessD} {i c : Int} {k : KeptD} {x : SessD} (h : checkS ls i = 0) (ht : thereS ls c = true) (hx : ls[placeS ls c]? = some x) (hk : thereK x.replies k.seq = true) : keepE ls i c k = 7 := by unfold keepE; rw [if_neg (by simpa using h), ht, hx]; simp [hk]
theorem keepE_form {ls : List SessD} {i c : Int} {k : KeptD} {x : SessD} (h : checkS ls i = 0) (ht : thereS ls c = true) (hx : ls[placeS ls c]? = some x) (hk : thereK x.replies k.seq = false) (hf : formFrom x.acked x.acked (withK x.replies k) = false) : keepE ls i c k = 2 := by
  unfold keepE; rw [if_neg (by simpa using h), ht, hx]
  have e : sformB { x with replies := withK x.replies k } = false := hf
  simp [hk, e]
theorem keepE_ok {ls : List SessD} {i c : Int} {k : KeptD} {x : SessD} (h : checkS ls i = 0) (ht : thereS ls c = true) (hx : ls[placeS ls c]? = some x) (hk : thereK x.replies k.seq = false) (hf : formFrom x.acked x.acked (withK x.replies k) = true) : keepE ls i c k = 0 := by
  unfold keepE; rw [if_neg (by simpa using h), ht, hx]
  have e : sformB { x with replies := withK x.replies k } = true := hf
  simp [hk, e]
theorem keepS_there {ls : List SessD} {c : Int} {k : KeptD} {x : SessD} (hx : ls[placeS ls c]? = some x) : keepS ls c k = ls.set (placeS ls c) { x with replies := withK x.replies k } := by unfold keepS; rw [hx]

/-- How Keep ends. -/
theorem keep_cases (ls : List SessD) (i c : Int) (k : KeptD) : (checkS ls i ≠ 0 ∧ keepE ls i c k = checkS ls i) ∨ (checkS ls i = 0 ∧ thereS ls c = false ∧ keepE ls i c k = 11) ∨
    ∃ x, checkS ls i = 0 ∧ thereS ls c = true ∧ ls[placeS ls c]? = some x ∧ ((thereK x.replies k.seq = true ∧ keepE ls i c k = 7) ∨ (thereK x.replies k.seq = false ∧ formFrom x.acked x.acked (withK x.replies k) = false ∧ keepE ls i c k = 2) ∨ (thereK x.replies k.seq = false ∧ formFrom x.acked x.acked (withK x.replies k) = true ∧ keepE ls i c k = 0)) := by
  by_cases h : checkS ls i = 0
  · cases ht : thereS ls c with
    | false => exact Or.inr (Or.inl ⟨h, rfl, keepE_away h ht⟩)
    | true =>
      obtain ⟨x, hx, -⟩ := thereS_some ht
      refine Or.inr (Or.inr ⟨x, h, rfl, hx, ?_⟩)
      cases hk : thereK x.replies k.seq with
      | true => exact Or.inl ⟨rfl, keepE_twice h ht hx hk⟩
      | false =>
        cases hf : formFrom x.acked x.acked (withK x.replies k) with
        | false => exact Or.inr (Or.inl ⟨rfl, rfl, keepE_form h ht hx hk hf⟩)
        | true => exact Or.inr (Or.inr ⟨rfl, rfl, keepE_ok h ht hx hk hf⟩)
  · exact Or.inl ⟨h, keepE_check h⟩
end Go.Proofs.Ytmcdbdcabiccnaf
