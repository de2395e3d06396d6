/- lock.inForm: may the name, the holder and the line be those of a lock? -/
import Derived.Test.YtkjahjknmfjmkafLockForm
namespace Go.Proofs.Ytkjahjknmfjmkaf
open Go.RowKit

theorem formB_name {x : LockD} (h : nameB x.name = false) : formB x = false := by simp [formB, h]
theorem formB_holder {x : LockD} (h : x.holder < 0 ∨ 9 < x.holder) : formB x = false := by
  have : decide (0 ≤ x.holder ∧ x.holder ≤ 9) = false := decide_eq_false (by omega)
  simp [formB, this]
theorem formB_line {x : LockD} (hn : nameB x.name = true) (h1 : 0 ≤ x.holder) (h2 : x.holder ≤ 9) : formB x = lineB x.line x.holder := by
  have : decide (0 ≤ x.holder ∧ x.holder ≤ 9) = true := decide_eq_true (by omega)
  simp [formB, hn, this]

/-- The cells of a lock. -/
def lockV (x : LockD) (lv : Value) : Value := .agg #[.string x.name, .int .i64 x.holder, .int .i64 x.fence, lv]

set_option maxHeartbeats 800000 in
theorem inForm_any (nm : ByteArray) (hd fe : Int) (line : List Int) (lv : Value) (w : World) (B : Nat) (hl : IntsR w B lv line) (hB : B ≤ w.heap.size) (hs : nm.size ≤ 140737488351232) :
    Calls Try.prog 60 #[.agg #[.string nm, .int .i64 hd, .int .i64 fe, lv]] w fun e w' => e = .returned (.bool (formB ⟨nm, hd, fe, line⟩)) ∧ Below w.heap.size w w' := by
  have HL : Hid (∀ w', Below w.heap.size w w' → IntsR w' B lv line) := fun w' hb => hl.below hb hB
  obtain ⟨ao, cap, rfl, h1, h2, h3, h4⟩ := hl
  clear h4
  cases hn : nameB nm with
  | false =>
    rw [formB_name (x := ⟨nm, hd, fe, line⟩) hn]
    go_enter Try.func60, Try.ntmps60
    go_wp2_with fail
    refine (name_any nm _ (by omega)).mono ?_
    rintro e w1 ⟨rfl, rfl⟩
    rw [hn]
    go_wp2
    go_ret
    exact ⟨rfl, (Below.refl _ _).alloc (Nat.le_refl _) _⟩
  | true =>
    by_cases hr : hd < 0 ∨ 9 < hd
    · rw [formB_holder (x := ⟨nm, hd, fe, line⟩) hr]
      have h0 : ¬ hd = 0 := by omega
      have HC := fun w => isClient_no hd w (by omega)
      clear hr
      go_enter Try.func60, Try.ntmps60
      go_wp2_with fail
      refine (name_any nm _ (by omega)).mono ?_
      rintro e w1 ⟨rfl, rfl⟩
      rw [hn]
      go_wp2_with fail
      refine (HC _).mono ?_
      rintro e w1 ⟨rfl, rfl⟩
      go_wp2
      go_ret
      exact ⟨rfl, (Below.refl _ _).alloc (Nat.le_refl _) _⟩
    · rw [formB_line (x := ⟨nm, hd, fe, line⟩) hn (by simp; omega) (by simp; omega)]
      by_cases h0 : hd = 0
      · subst h0
        clear hr
        go_enter Try.func60, Try.ntmps60
        go_wp2_with fail
        refine (name_any nm _ (by omega)).mono ?_
        rintro e w1 ⟨rfl, rfl⟩
        rw [hn]
        go_wp2_with fail
        refine (line_any _ line 0 _ B (HL.out _ ((Below.refl _ _).alloc (Nat.le_refl _) _))).mono ?_
        rintro e w1 ⟨rfl, rfl⟩
        go_wp2
        go_ret
        exact ⟨rfl, (Below.refl _ _).alloc (Nat.le_refl _) _⟩
      · have h5 : 1 ≤ hd := by omega
        have h6 : hd ≤ 9 := by omega
        clear hr
        go_enter Try.func60, Try.ntmps60
        go_wp2_with fail
        refine (name_any nm _ (by omega)).mono ?_
        rintro e w1 ⟨rfl, rfl⟩
        rw [hn]
        go_wp2_with fail
        refine (isClient_yes hd _ h5 h6).mono ?_
        rintro e w1 ⟨rfl, rfl⟩
        go_wp2_with fail
        refine (line_any _ line hd _ B (HL.out _ ((Below.refl _ _).alloc (Nat.le_refl _) _))).mono ?_
        rintro e w1 ⟨rfl, rfl⟩
        go_wp2
        go_ret
        exact ⟨rfl, (Below.refl _ _).alloc (Nat.le_refl _) _⟩
end Go.Proofs.Ytkjahjknmfjmkaf
