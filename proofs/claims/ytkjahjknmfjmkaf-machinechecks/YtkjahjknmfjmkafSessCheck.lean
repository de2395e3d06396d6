/- session.within, isClient, inRange, mayBeKept, inForm, Check. -/
import Derived.Test.YtkjahjknmfjmkafSessMem
namespace Go.Proofs.Ytkjahjknmfjmkaf
open Go.RowKit

theorem sret_bool {a b : Bool} (h : a = b) : Ending.returned (.bool a) = .returned (.bool b) := by rw [h]

theorem swithin_yes (n a b : Int) (w : World) (h1 : a ≤ n) (h2 : n ≤ b) :
    Calls Try.prog 29 #[.int .i64 n, .int .i64 a, .int .i64 b] w fun e w' => e = .returned (.bool true) ∧ w' = w := by
  go_enter Try.func29, Try.ntmps29
  go_wp2
  go_ret
  exact ⟨rfl, rfl⟩

theorem swithin_no (n a b : Int) (w : World) (h : n < a ∨ b < n) :
    Calls Try.prog 29 #[.int .i64 n, .int .i64 a, .int .i64 b] w fun e w' => e = .returned (.bool false) ∧ w' = w := by
  by_cases h1 : a ≤ n
  · have h2 : ¬ n ≤ b := by omega
    go_enter Try.func29, Try.ntmps29
    go_wp2
    go_ret
    exact ⟨rfl, rfl⟩
  · go_enter Try.func29, Try.ntmps29
    go_wp2
    go_ret
    exact ⟨rfl, rfl⟩

theorem sclient_yes (n : Int) (w : World) (h1 : 1 ≤ n) (h2 : n ≤ 9) :
    Calls Try.prog 38 #[.int .i64 n] w fun e w' => e = .returned (.bool true) ∧ w' = w := by
  go_enter Try.func38, Try.ntmps38
  go_wp2_with fail
  refine (swithin_yes n 1 9 _ h1 h2).mono ?_
  rintro e w' ⟨rfl, hw⟩
  subst hw
  go_wp2
  go_ret
  exact ⟨rfl, rfl⟩

theorem sclient_no (n : Int) (w : World) (h : n < 1 ∨ 9 < n) :
    Calls Try.prog 38 #[.int .i64 n] w fun e w' => e = .returned (.bool false) ∧ w' = w := by
  go_enter Try.func38, Try.ntmps38
  go_wp2_with fail
  refine (swithin_no n 1 9 _ h).mono ?_
  rintro e w' ⟨rfl, hw⟩
  subst hw
  go_wp2
  go_ret
  exact ⟨rfl, rfl⟩

set_option maxHeartbeats 800000 in
theorem inRange_yes (c d a t i : Int) (lv : Value) (w : World) (h : (1 ≤ c ∧ c ≤ 9) ∧ (0 ≤ a ∧ a ≤ 1048576) ∧ (1 ≤ d ∧ d ≤ i) ∧ d ≤ t ∧ t ≤ i) :
    Calls Try.prog 46 #[.agg #[.int .i64 c, .int .i64 d, .int .i64 a, .int .i64 t, lv], .int .i64 i] w fun e w' => e = .returned (.bool true) ∧ Below w.heap.size w w' := by
  obtain ⟨⟨h1, h2⟩, ⟨h3, h4⟩, ⟨h5, h6⟩, h7, h8⟩ := h
  go_enter Try.func46, Try.ntmps46
  go_wp2_with fail
  refine (sclient_yes c _ h1 h2).mono ?_
  rintro e w1 ⟨rfl, hw⟩
  subst hw
  go_wp2_with fail
  refine (swithin_yes a 0 1048576 _ h3 h4).mono ?_
  rintro e w1 ⟨rfl, hw⟩
  subst hw
  go_wp2_with fail
  refine (swithin_yes d 1 i _ h5 h6).mono ?_
  rintro e w1 ⟨rfl, hw⟩
  subst hw
  go_wp2_with fail
  refine (swithin_yes t d i _ h7 h8).mono ?_
  rintro e w1 ⟨rfl, hw⟩
  subst hw
  go_wp2
  go_ret
  exact ⟨rfl, (Below.refl _ _).alloc (Nat.le_refl _) _⟩

set_option maxHeartbeats 1600000 in
theorem inRange_no (c d a t i : Int) (lv : Value) (w : World) (h : ¬ ((1 ≤ c ∧ c ≤ 9) ∧ (0 ≤ a ∧ a ≤ 1048576) ∧ (1 ≤ d ∧ d ≤ i) ∧ d ≤ t ∧ t ≤ i)) :
    Calls Try.prog 46 #[.agg #[.int .i64 c, .int .i64 d, .int .i64 a, .int .i64 t, lv], .int .i64 i] w fun e w' => e = .returned (.bool false) ∧ Below w.heap.size w w' := by
  by_cases k1 : 1 ≤ c ∧ c ≤ 9
  · obtain ⟨h1, h2⟩ := k1
    by_cases k2 : 0 ≤ a ∧ a ≤ 1048576
    · obtain ⟨h3, h4⟩ := k2
      by_cases k3 : 1 ≤ d ∧ d ≤ i
      · obtain ⟨h5, h6⟩ := k3
        have h7 : t < d ∨ i < t := by omega
        clear h
        go_enter Try.func46, Try.ntmps46
        go_wp2_with fail
        refine (sclient_yes c _ h1 h2).mono ?_
        rintro e w1 ⟨rfl, hw⟩
        subst hw
        go_wp2_with fail
        refine (swithin_yes a 0 1048576 _ h3 h4).mono ?_
        rintro e w1 ⟨rfl, hw⟩
        subst hw
        go_wp2_with fail
        refine (swithin_yes d 1 i _ h5 h6).mono ?_
        rintro e w1 ⟨rfl, hw⟩
        subst hw
        go_wp2_with fail
        refine (swithin_no t d i _ h7).mono ?_
        rintro e w1 ⟨rfl, hw⟩
        subst hw
        go_wp2
        go_ret
        exact ⟨rfl, (Below.refl _ _).alloc (Nat.le_refl _) _⟩
      · have h5 : d < 1 ∨ i < d := by omega
        clear h k3
        go_enter Try.func46, Try.ntmps46
        go_wp2_with fail
        refine (sclient_yes c _ h1 h2).mono ?_
        rintro e w1 ⟨rfl, hw⟩
        subst hw
        go_wp2_with fail
        refine (swithin_yes a 0 1048576 _ h3 h4).mono ?_
        rintro e w1 ⟨rfl, hw⟩
        subst hw
        go_wp2_with fail
        refine (swithin_no d 1 i _ h5).mono ?_
        rintro e w1 ⟨rfl, hw⟩
        subst hw
        go_wp2
        go_ret
        exact ⟨rfl, (Below.refl _ _).alloc (Nat.le_refl _) _⟩
    · have h3 : a < 0 ∨ 1048576 < a := by omega
      clear h k2
      go_enter Try.func46, Try.ntmps46
      go_wp2_with fail
      refine (sclient_yes c _ h1 h2).mono ?_
      rintro e w1 ⟨rfl, hw⟩
      subst hw
      go_wp2_with fail
      refine (swithin_no a 0 1048576 _ h3).mono ?_
      rintro e w1 ⟨rfl, hw⟩
      subst hw
      go_wp2
      go_ret
      exact ⟨rfl, (Below.refl _ _).alloc (Nat.le_refl _) _⟩
  · have h1 : c < 1 ∨ 9 < c := by omega
    clear h k1
    go_enter Try.func46, Try.ntmps46
    go_wp2_with fail
    refine (sclient_no c _ h1).mono ?_
    rintro e w1 ⟨rfl, hw⟩
    subst hw
    go_wp2
    go_ret
    exact ⟨rfl, (Below.refl _ _).alloc (Nat.le_refl _) _⟩

set_option maxHeartbeats 800000 in
theorem mayBe_yes (c n : Int) (s : ByteArray) (w : World) (h : replyB c n s.size = true) :
    Calls Try.prog 57 #[.agg #[.int .i64 c, .int .i64 n, .string s]] w fun e w' => e = .returned (.bool true) ∧ Below w.heap.size w w' := by
  obtain ⟨h1, h2, h3, h4, h5⟩ := replyB_iff.1 h
  clear h
  go_enter Try.func57, Try.ntmps57
  go_wp2_with (go_at_call 29; refine (swithin_yes _ _ _ _ h3 h4).mono ?_; rintro e w' ⟨rfl, hw⟩; subst hw)
  go_ret
  exact ⟨sret_bool (a := decide ((s.size : Int) ≤ 12)) (by simp; omega), (Below.refl _ _).alloc (Nat.le_refl _) _⟩

set_option maxHeartbeats 1600000 in
theorem mayBe_no (c n : Int) (s : ByteArray) (w : World) (hs : s.size ≤ 140737488351232) (h : replyB c n s.size = false) :
    Calls Try.prog 57 #[.agg #[.int .i64 c, .int .i64 n, .string s]] w fun e w' => e = .returned (.bool false) ∧ Below w.heap.size w w' := by
  have h' : ¬ (0 ≤ c ∧ c ≤ 15 ∧ 0 ≤ n ∧ n ≤ 1073741824 ∧ s.size ≤ 12) := fun k => by rw [replyB_iff.2 k] at h; cases h
  clear h
  by_cases h1 : 0 ≤ c
  · by_cases h2 : c ≤ 15
    · by_cases k : 0 ≤ n ∧ n ≤ 1073741824
      · obtain ⟨h3, h4⟩ := k
        have h5 : ¬ s.size ≤ 12 := by omega
        clear h'
        go_enter Try.func57, Try.ntmps57
        go_wp2_with (go_at_call 29; refine (swithin_yes _ _ _ _ h3 h4).mono ?_; rintro e w' ⟨rfl, hw⟩; subst hw)
        go_ret
        exact ⟨sret_bool (a := decide ((s.size : Int) ≤ 12)) (by simp; omega), (Below.refl _ _).alloc (Nat.le_refl _) _⟩
      · have h3 : n < 0 ∨ 1073741824 < n := by omega
        clear h' k
        go_enter Try.func57, Try.ntmps57
        go_wp2_with (go_at_call 29; refine (swithin_no _ _ _ _ h3).mono ?_; rintro e w' ⟨rfl, hw⟩; subst hw)
        go_ret
        exact ⟨rfl, (Below.refl _ _).alloc (Nat.le_refl _) _⟩
    · clear h'
      go_enter Try.func57, Try.ntmps57
      go_wp2
      go_ret
      exact ⟨rfl, (Below.refl _ _).alloc (Nat.le_refl _) _⟩
  · clear h'
    go_enter Try.func57, Try.ntmps57
    go_wp2
    go_ret
    exact ⟨rfl, (Below.refl _ _).alloc (Nat.le_refl _) _⟩

end Go.Proofs.Ytkjahjknmfjmkaf
