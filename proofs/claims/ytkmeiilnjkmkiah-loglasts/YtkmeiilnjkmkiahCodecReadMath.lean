/- Plain mathematics of reading a number from the front of bytes. It imports no program. -/
import Derived.Test.YtkmeiilnjkmkiahCodecNumMath
namespace Go.Proofs.Ytkmeiilnjkmkiah
open Go.RowKit

/-- How many digits the number at the front has; 0: the bytes end within it. -/
def cd : List UInt8 → Nat
  | [] => 0
  | c :: t => if c.toNat < 128 then 1 else if cd t = 0 then 0 else cd t + 1

theorem cd_le (l : List UInt8) : cd l ≤ l.length := by
  induction l with
  | nil => simp [cd]
  | cons c t ih => simp only [cd, List.length_cons]; split <;> (try split) <;> omega

theorem cd_hit (l : List UInt8) : ∀ k, k < l.length → (∀ j, j < k → 128 ≤ (l.getD j 0).toNat) → (l.getD k 0).toNat < 128 → cd l = k + 1 := by
  induction l with
  | nil => intro k hk; simp at hk
  | cons c t ih =>
    intro k hk hall hlt
    cases k with
    | zero => simp at hlt; simp [cd, hlt]
    | succ k =>
      have h0 := hall 0 (by omega)
      have := ih k (by simpa using hk) (fun j hj => by simpa using hall (j + 1) (by omega)) (by simpa using hlt)
      simp at h0
      simp [cd, this]; omega

theorem cd_miss (l : List UInt8) : (∀ j, j < l.length → 128 ≤ (l.getD j 0).toNat) → cd l = 0 := by
  induction l with
  | nil => intro _; rfl
  | cons c t ih =>
    intro hall
    have h0 := hall 0 (by simp)
    have := ih (fun j hj => by simpa using hall (j + 1) (by simpa using hj))
    simp at h0
    simp [cd, this]; omega

/-- The number that digits tell, the lowest first. -/
def dec : List UInt8 → Int
  | [] => 0
  | c :: t => (c.toNat : Int) % 128 + 128 * dec t

theorem dec_nonneg (l : List UInt8) : 0 ≤ dec l := by
  induction l with
  | nil => simp [dec]
  | cons c t ih => simp only [dec]; omega

theorem reach_pos (f : Nat) : 0 < reach f := by
  induction f with
  | zero => simp [reach]
  | succ f ih => simp only [reach]; omega

theorem dec_lt (l : List UInt8) : ∀ f : Nat, l.length ≤ f + 1 → dec l < reach f := by
  induction l with
  | nil => intro f _; exact reach_pos f
  | cons c t ih =>
    intro f hf
    cases f with
    | zero =>
      have : t = [] := by cases t with
        | nil => rfl
        | cons a b => simp at hf
      subst this
      simp [dec, reach]; omega
    | succ f => have := ih f (by simpa using hf); simp only [dec, reach]; omega

theorem reach5 : reach 5 = 4398046511104 := by simp [reach]

theorem dec_lt42 (l : List UInt8) (h : l.length ≤ 6) : dec l < 4398046511104 := by
  have := dec_lt l 5 h; rw [reach5] at this; exact this

theorem dec_drop (l : List UInt8) (k : Nat) (hk : k < l.length) : dec (l.drop k) = ((l.getD k 0).toNat : Int) % 128 + 128 * dec (l.drop (k + 1)) := by
  rw [List.drop_eq_getElem_cons hk, dec]
  simp [List.getElem?_eq_getElem hk]

theorem dec_end (l : List UInt8) : dec (l.drop l.length) = 0 := by simp [dec]

/-- Digits in form: all but the last have 128 more, the last is below 128, and 0 only if it is the only one. -/
def Form : List UInt8 → Prop
  | [] => False
  | [c] => c.toNat < 128
  | c :: d :: t => 128 ≤ c.toNat ∧ Form (d :: t) ∧ ¬ (t = [] ∧ d.toNat = 0)

theorem dec_pos : ∀ l : List UInt8, Form l → l ≠ [] → ¬ (∃ c, l = [c] ∧ c.toNat = 0) → 0 < dec l
  | [], h, _, _ => h.elim
  | [c], h, _, hz => by
    simp only [Form] at h
    have : c.toNat ≠ 0 := fun e => hz ⟨c, rfl, e⟩
    simp only [dec]; omega
  | c :: d :: t, h, _, _ => by
    simp only [Form] at h
    have := dec_pos (d :: t) h.2.1 (by simp) (by
      rintro ⟨x, hx, h0⟩
      simp at hx
      exact h.2.2 ⟨hx.2, by rw [hx.1]; exact h0⟩)
    have e : dec (c :: d :: t) = (c.toNat : Int) % 128 + 128 * dec (d :: t) := rfl
    omega

theorem enc_dec : ∀ (f : Nat) (l : List UInt8), Form l → l.length ≤ f + 1 → enc f (dec l) = l.map fun c => (c.toNat : Int)
  | f, [], h, _ => h.elim
  | f, [c], h, _ => by
    simp only [Form] at h
    have e : dec [c] = (c.toNat : Int) := by simp only [dec]; omega
    rw [e, enc_small f _ (by omega)]; rfl
  | 0, c :: d :: t, _, hl => by simp at hl
  | f + 1, c :: d :: t, h, hl => by
    simp only [Form] at h
    have hp := dec_pos (d :: t) h.2.1 (by simp) (by
      rintro ⟨x, hx, h0⟩
      simp at hx
      exact h.2.2 ⟨hx.2, by rw [hx.1]; exact h0⟩)
    have ih := enc_dec f (d :: t) h.2.1 (by simpa using hl)
    have e : dec (c :: d :: t) = (c.toNat : Int) % 128 + 128 * dec (d :: t) := rfl
    have hc := c.toNat_lt
    rw [enc_step f _ (by rw [e]; omega)]
    have e1 : dec (c :: d :: t) / 128 = dec (d :: t) := by rw [e]; omega
    have e2 : dec (c :: d :: t) % 128 + 128 = (c.toNat : Int) := by rw [e]; omega
    rw [e1, e2, ih]; rfl

/-- What counting finds is in form, unless its last digit is a needless 0. -/
theorem form_of (l : List UInt8) : cd l ≠ 0 → (1 < cd l → (l.getD (cd l - 1) 0).toNat ≠ 0) → Form (l.take (cd l)) := by
  induction l with
  | nil => intro h; simp [cd] at h
  | cons c t ih =>
    intro h0 hz
    by_cases hc : c.toNat < 128
    · simp [cd, hc, Form]
    · have hct : cd t ≠ 0 := by intro e; simp [cd, hc, e] at h0
      have e : cd (c :: t) = cd t + 1 := by simp [cd, hc, hct]
      rw [e] at hz ⊢
      have hzt := hz (by omega)
      obtain ⟨k, hk⟩ : ∃ k, cd t = k + 1 := ⟨cd t - 1, by omega⟩
      have hzt' : (t.getD (cd t - 1) 0).toNat ≠ 0 := by
        rw [hk] at hzt ⊢
        simpa using hzt
      have ih' := ih hct (fun _ => hzt')
      rw [List.take_succ_cons]
      cases t with
      | nil => simp [cd] at hct
      | cons d u =>
        rw [hk, List.take_succ_cons] at ih' ⊢
        refine ⟨by omega, ih', ?_⟩
        rintro ⟨hu, hd⟩
        rw [hk] at hzt'
        have hlen := cd_le (d :: u)
        rw [hk] at hlen
        have : k = 0 := by
          have hh := congrArg List.length hu
          simp at hh
          simp at hlen
          rcases hh with hh | hh
          · exact hh
          · subst hh; simp at hlen; exact hlen
        subst this
        simp at hzt'
        exact hzt' hd

end Go.Proofs.Ytkmeiilnjkmkiah
